
/-
  How many bytes all frames have with which bytes begin.
-/
import Derived.Test.YtjhgbbmghgeeoaaFe
import Derived.Test.YtjhgbbmghgeeoaaFf
namespace Go.Proofs.Ytjhgbbmghgeeoaa
open Go.RowKit Go.Shelf
attribute [local go_sem] Oper.semAt_some

theorem allF_sizes : ∀ (f i : Nat) (l : List UInt8) (x : Nat × List UInt8), x ∈ allF f i l → x.1 + sz x.2.length ≤ i + l.length
  | 0, _, _, _, h => by cases h
  | f + 1, i, l, x, h => by
    by_cases h0 : (takes l).2.2 = 0
    · have hs := takes_sz l h0
      rw [allF_step h0] at h
      rcases List.mem_cons.1 h with rfl | h1
      · show i + sz (takes l).1.length ≤ _
        omega
      · have := allF_sizes f _ _ x h1
        rw [List.length_drop] at this
        omega
    · rw [allF_stop h0] at h
      cases h
theorem allF_len : ∀ (f i : Nat) (l : List UInt8), (allF f i l).length ≤ l.length
  | 0, _, _ => Nat.zero_le _
  | f + 1, i, l => by
    by_cases h0 : (takes l).2.2 = 0
    · have hs := takes_sz l h0
      have hp := sz_pos (takes l).1.length
      have := allF_len f (i + (takes l).2.1) (l.drop (takes l).2.1)
      rw [List.length_drop] at this
      rw [allF_step h0, List.length_cons]
      omega
    · rw [allF_stop h0]
      exact Nat.zero_le _
theorem allOf_len (l : List UInt8) : (allOf l).length ≤ l.length := allF_len _ _ _
theorem frGv_size {l : List UInt8} {pre : List Fr} {x : Fr} {W : World} (h : frGv l pre x W) : x.1.1 + sz x.1.2.length ≤ l.length := by
  have h1 : x.1 ∈ allOf l := h.2.subset (by simp)
  have := allF_sizes _ _ _ _ h1
  omega
theorem endOf_more (pre : List Fr) (x : Fr) : endOf 0 ((pre ++ [x]).map (·.1)) = x.1.1 + sz x.1.2.length := by
  rw [List.map_append]
  exact endOf_snoc 0 x.1.1 x.1.2 _

set_option maxRecDepth 100000 in
set_option maxHeartbeats 2000000 in
theorem whole_any (v : Value) (l : List UInt8) (w : World) (hv : Rd w v l) (hl : l.length ≤ 1000000) :
    Calls Try.prog 7 #[v] w fun e w' => e = .returned (.int .i64 (endOf 0 (allOf l) : Nat)) ∧ Turn (fun _ => False) w w' := by
  have HV := Lib.hid hv
  obtain ⟨A, c, rfl⟩ := hv.shape
  clear hv
  refine (callsIn_wide (n := 5)).1 ?_
  refine callsIn_of_wp_marks Try.func7 rfl trivial ?_ rfl
  simp only [Try.ntmps7, List.size_toArray, List.length_cons, List.length_nil, Nat.reduceAdd, Nat.reduceSub, Array.replicate_succ, Array.replicate_zero, List.push_toArray, List.append_toArray, List.nil_append, List.cons_append]
  gi_wp2_with (refine ⟨trivial, ?_⟩; gi_at_call 8; refine (callsIn_wide.2 (each_any _ l _ (HV.out.later ((Turn.refl _ w).alloc _)) hl)).mono ?_; rintro e w1 ⟨q, u, rfl, hq, hu, ht, hqs, hus⟩; have HQ := Lib.hid hq; have HU := Lib.hid hu; have HT := Lib.hid ht; have HQS := Lib.hid hqs; have HUS := Lib.hid hus; clear hq hu ht hqs hus)
  have hsz : w.heap.size + 1 ≤ w1.heap.size := by have := HT.out.size; simpa using this
  have HTW : Hid (Turn (fun _ => False) w w1) := ((Turn.refl _ w).alloc _).trans HT.out (fun _ _ f => f)
  refine over (n := 5) (by omega) (gf := 15) (lb := #[.pointer (some ⟨q, 0, none⟩)]) rfl (enters_of Try.func15 (by kernel_rfl) rfl)
    (frames_give 4 (by omega) q u l w1 HQ.out HU.out.rd hl (fun k => k = w.heap.size ∨ w1.heap.size ≤ k) ?hq ?hu) (Turn.refl _ _) (fun k h => .inr h) (fun pre => frGv_holds _ l pre) (fun _ => rfl)
    (fun (pre : List Fr) W => Box W w.heap.size 3 #[.int .i64 (endOf 0 (pre.map (·.1)) : Nat)] ∧ Turn (fun _ => False) w W) (fun _ _ _ => False)
    (Holds.and (holds_box _ _ _ (fun (pre : List Fr) => #[.int .i64 (endOf 0 (pre.map (·.1)) : Nat)])) (holds_turn (fun k h1 h2 => by omega))) (fun _ _ _ _ h _ => h) ⟨(Box.new w _ _).turn HT.out (fun f => f), HTW.out⟩
    (fun (x : Fr) => { tmps := #[.slice A l.length c, undef, .int .i64 0, .pointer (some ⟨w.heap.size, 0, none⟩), .int .i64 x.1.1, .slice x.2.1 x.1.2.length x.2.2, .slice A l.length c, .func (.func 15) #[] #[.pointer (some ⟨q, 0, none⟩)],
      .int .i64 x.1.1, .slice x.2.1 x.1.2.length x.2.2, undef, undef, undef, undef, undef, undef], defers := [] }) ?assign ?body ?done ?stop
  case hq =>
    have h1 : w.heap.size + 1 ≤ q := by have := HQS.out; simpa using this
    have h2 := HQ.out.lt
    omega
  case hu =>
    intro k hk
    have h1 : w.heap.size + 1 ≤ k := by have := HUS.out k hk; simpa using this
    have h2 := HU.out.lt hk
    omega
  case assign =>
    intro l0 x W K hK
    gi_wp2
    exact hK
  case body =>
    rintro l0 pre x W ⟨hb, ht⟩ hgv
    have hsm := frGv_size hgv
    have hcell : W.cell? ⟨w.heap.size, 0, none⟩ = some (.int .i64 (endOf 0 (pre.map (·.1)) : Nat)) := hb.cell 0
    have hfree : W.frozen? ⟨w.heap.size, 0, none⟩ = false := hb.free 0
    have hz : sz x.1.2.length ≤ 1000000 := by omega
    have hle : x.1.2.length ≤ 1000000 := by unfold sz at hz; omega
    have HB := Lib.hid hb
    have HT := Lib.hid ht
    have HE := Lib.hid (endOf_more pre x)
    clear hb ht hgv
    obtain ⟨⟨i, p⟩, ⟨Au, cu⟩⟩ := x
    dsimp only at hsm hz hle HE ⊢
    obtain ⟨z, hz0⟩ : ∃ z, z = sz p.length := ⟨_, rfl⟩
    rw [← hz0] at hsm hz HE
    have HZ := Lib.hid hz0; clear hz0
    gi_wp2_with (refine ⟨trivial, ?_⟩; gi_at_call 12; refine (CallsIn.inRound l0 (callsIn_wide.2 (size_any p.length _ (by omega)))).mono ?_; rintro e w2 ⟨rfl, ht⟩; rw [← HZ.out]; have hcell2 := (HB.out.turn ht (fun f => f)).cell 0; have hfree2 := (HB.out.turn ht (fun f => f)).free 0; have HT2 := Lib.hid ht; clear ht)
    refine ⟨(KeepsOthers.turned HT2.out).trans (KeepsOthers.setCell _ _ _), HT2.out.none.setCell (p := ⟨w.heap.size, 0, none⟩) (fun _ => .inl rfl) _, ?_, (HT.out.trans HT2.out (fun _ _ f => f)).setCell (p := ⟨w.heap.size, 0, none⟩) (fun h => absurd h (Nat.lt_irrefl _)) _⟩
    have h := (HB.out.turn HT2.out (fun f => f)).set 0 (.int .i64 ((i : Int) + z))
    rw [HE.out]
    simpa using h
  case done =>
    rintro D xs W hD hA ⟨hb, ht⟩ hK
    have hcell : W.cell? ⟨w.heap.size, 0, none⟩ = some (.int .i64 (endOf 0 (xs.map (·.1)) : Nat)) := hb.cell 0
    have HA : Hid (xs.map (·.1) = allOf l) := hA
    have HT2 := Lib.hid ht
    clear hb ht hA
    gi_wp2
    refine ⟨by simp, .inl ⟨_, _, rfl, run_takeDeferred hK, ?_⟩⟩
    refine ⟨_, results_tmp rfl _ _ _, by rw [← HA.out]; rfl, ?_⟩
    exact HT2.out.fresh (Turn.putObj W D _ (S := fun k => k = D) rfl) (fun k e => by rw [e]; omega)
  case stop =>
    rintro D c0 pre W _ _ h _
    exact h.elim

end Go.Proofs.Ytjhgbbmghgeeoaa
