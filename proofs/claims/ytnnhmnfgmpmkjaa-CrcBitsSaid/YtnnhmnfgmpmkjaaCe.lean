/-
  Bytes with their check, as the document puts them; what is got of bytes, by the program and by the document.
-/
import Derived.Test.YtnnhmnfgmpmkjaaCd
import Derived.Deep.QuietTactic
import Derived.BigQuiet
import Derived.Deep.RegionWith
namespace Go.Proofs.Ytnnhmnfgmpmkjaa
open Go.RowKit

theorem Made.rd {w w' : World} {v : Value} {l : List UInt8} (h : Made w w' v l) : Rd w' v l := h.1.rd

theorem made_app {w w1 w2 w3 : World} {A A' : Option Addr} {n c n' c' B : Nat} {l m : List UInt8} (h : Made w w1 (.slice A n c) l) (ht : Turn (fun _ => False) w1 w2) (hb : By w3 (.slice A' n' c') m)
    (hg : w2.grownBy w3 (Value.slice A n c).ownBlock) (ha : (Value.slice A' n' c').ownBlock = (Value.slice A n c).ownBlock ∨ (Value.slice A' n' c').ownBlock = some B) (hB : w2.heap.size = B) : Made w w3 (.slice A' n' c') m := by
  have h1 : Turn (fun _ => False) w w2 := h.2.1.trans ht (fun _ _ f => f)
  refine ⟨hb, h1.grown hg (fun k hk e => ?_), fun k hk => ?_⟩
  · have := h.2.2 k e
    omega
  · rcases ha with e | e
    · exact h.2.2 k (by rw [← e]; exact hk)
    · rw [e] at hk
      have := h1.size
      injection hk with hk
      omega
theorem By.shape {w : World} {v : Value} {l : List UInt8} (h : By w v l) : ∃ A c, v = .slice A l.length c := by
  rcases h.form with ⟨rfl, rfl⟩ | ⟨g, cap, cur, rfl, _⟩
  · exact ⟨_, _, rfl⟩
  · exact ⟨_, _, rfl⟩
theorem made_empty (w : World) : Made w (w.alloc (.cells #[] 5)) (.slice (some ⟨w.heap.size, 0, none⟩) 0 0) [] :=
  ⟨By.empty w, (Turn.refl _ w).alloc _, fun k hk => by
    have : w.heap.size = k := by simpa [Value.ownBlock] using hk
    omega⟩

set_option maxRecDepth 100000 in
set_option maxHeartbeats 1000000 in
theorem ref_put (v : Value) (l : List UInt8) (w : World) (hv : Rd w v l) (hl : l.length ≤ 1000000) :
    Calls Try.prog 16 #[v] w fun e w' => ∃ v', e = .returned v' ∧ Made w w' v' (l ++ tl (more 0 l)) := by
  have HV := Lib.hid hv
  have HY : Hid (Yields (w.alloc (.cells #[] 5)) 22 v l) := (hv.later ((Turn.refl _ w).alloc _)).yields
  obtain ⟨A, c, rfl, hcc⟩ := hv
  clear hcc
  have HM0 := Lib.hid (made_empty w)
  obtain ⟨s, hs⟩ : ∃ s, s = more 0 l := ⟨_, rfl⟩
  have hs2 : Hid (s < 4294967296) := by rw [hs]; exact more_lt _ _
  have HS := Lib.hid hs; clear hs
  go_enter Try.func16, Try.ntmps16
  go_wp2_with (at_builtin; go_must (refine wpList_app (o := ⟨some 5, _, _, _, _, _⟩) _ rfl (.tmp 3) (.tmp 4) 22 rfl _ [] rfl HM0.out.1 _ rfl l HY.out (by simp; omega) ?_))
  intro A1 n1 c1 w1 hb hg ha
  have HM1 := Lib.hid (made_app HM0.out (Turn.refl _ _) hb hg ha (by simp))
  clear hb hg ha
  go_wp2_with (first
    | (go_at_call 9; refine (ref_sum _ l w1 (HV.out.later HM1.out.2.1) hl).mono ?_; rintro e w3 ⟨rfl, rfl⟩; rw [← HS.out])
    | (go_at_call 20; refine (tail_any s w1 hs2).mono ?_; rintro e w2 ⟨v2, rfl, hb2, ht2, _⟩; obtain ⟨A2, c2, rfl⟩ := hb2.shape; have HB2 := Lib.hid hb2; have HT2 := Lib.hid ht2; clear hb2 ht2)
    | (at_builtin; go_must (refine wpList_app (o := ⟨some 9, _, _, _, _, _⟩) _ rfl (.tmp 5) (.tmp 8) 22 rfl _ l rfl (HM1.out.1.turn HT2.out (fun _ _ f => f)) _ rfl (tl s) HB2.out.yields (by simp [tl_len]; omega) ?_)))
  intro A3 n3 c3 w3 hb hg ha
  have HM3 := Lib.hid (made_app HM1.out HT2.out hb hg ha rfl)
  clear hb hg ha
  go_wp2
  go_ret
  exact ⟨_, rfl, by rw [← HS.out]; exact HM3.out⟩

/-- What is got of bytes, and the fault. -/
def gets (l : List UInt8) : List UInt8 × Nat :=
  if l.length < 4 then ([], 3) else if l.drop (l.length - 4) == tl (more 0 (l.take (l.length - 4))) then (l.take (l.length - 4), 0) else ([], 5)

def GetPost (w : World) (l : List UInt8) (e : Ending) (w' : World) : Prop := ∃ v', e = .returned (.tuple #[v', .int .i64 (gets l).2]) ∧ Rd w' v' (gets l).1 ∧ Turn (fun _ => False) w w'

theorem Rd.none (w : World) : Rd w (.slice none 0 0) [] := (By.nil w).rd
theorem get_few {w w' : World} {l : List UInt8} (h : l.length < 4) (ht : Turn (fun _ => False) w w') : GetPost w l (.returned (.tuple #[.slice none 0 0, .int .i64 3])) w' := by
  have e : gets l = ([], 3) := by unfold gets; rw [if_pos h]
  refine ⟨_, by rw [e]; rfl, by rw [e]; exact Rd.none _, ht⟩
theorem get_bad {w w' : World} {l : List UInt8} {n : Nat} (h : l.length = n + 4) (hs : (l.drop n == tl (more 0 (l.take n))) = false) (ht : Turn (fun _ => False) w w') : GetPost w l (.returned (.tuple #[.slice none 0 0, .int .i64 5])) w' := by
  have e : gets l = ([], 5) := by unfold gets; rw [if_neg (by omega), show l.length - 4 = n by omega, hs]; rfl
  refine ⟨_, by rw [e]; rfl, by rw [e]; exact Rd.none _, ht⟩
theorem get_good {w w' : World} {l : List UInt8} {n : Nat} {v : Value} (h : l.length = n + 4) (hs : (l.drop n == tl (more 0 (l.take n))) = true) (hv : Rd w' v (l.take n)) (ht : Turn (fun _ => False) w w') : GetPost w l (.returned (.tuple #[v, .int .i64 0])) w' := by
  have e : gets l = (l.take n, 0) := by unfold gets; rw [if_neg (by omega), show l.length - 4 = n by omega, hs]; rfl
  refine ⟨_, by rw [e]; rfl, by rw [e]; exact hv, ht⟩

theorem Rd.drewN {w : World} {v : Value} {l : List UInt8} (h : Rd w v l) (k : Nat) : Rd (w.drewN k) v l := h.later ((Turn.refl _ w).drewN k)
theorem Rd.drew {w : World} {v : Value} {l : List UInt8} (h : Rd w v l) : Rd w.drew v l := h.later (Turn.refl _ w).drew
theorem quiet_left {P : Program} {f : FuncId} {args : Array Value} {w : World} {n : Nat} {v : Value}
    (h : Calls P f args (w.drewN n) fun e w' => e = .returned v ∧ w.drewN n = w') : Calls P f args (w.drewN n) fun e w'' => e = .returned v ∧ ∃ m, w'' = w.drewN m :=
  h.mono fun _ _ ⟨he, hm⟩ => ⟨he, n, hm.symm⟩

theorem splice_full {M X : List Value} (h : M.length = X.length) : splice M 0 X = X := by
  unfold splice
  rw [List.take_zero, List.nil_append, Nat.zero_add, ← h, List.drop_length, List.append_nil]

set_option maxRecDepth 100000 in
set_option maxHeartbeats 1000000 in
theorem crc_get (v : Value) (l : List UInt8) (w : World) (hv : Rd w v l) (hl : l.length ≤ 1000000) :
    Calls Try.prog 12 #[v] w (GetPost w l) := by
  have HV := Lib.hid hv
  obtain ⟨A, c, rfl, _⟩ := hv
  by_cases h4 : l.length < 4
  · go_enter Try.func12, Try.ntmps12
    go_wp2
    go_ret2
    exact get_few h4 (Turn.refl _ _)
  · obtain ⟨n, hn⟩ : ∃ n, l.length = n + 4 := ⟨l.length - 4, by omega⟩
    obtain ⟨ad, rfl⟩ := HV.out.some_at (by omega)
    have hcap := HV.out.fits.2
    rw [hn] at hcap hl HV
    have HN := Lib.hid hn
    rw [hn]
    clear hn h4
    unfold maxLen at hcap
    obtain ⟨hc1, hc2⟩ := hcap
    have HF := Lib.hid (HV.out.front n (by omega))
    have HB := Lib.hid (HV.out.back n (by omega))
    have HLF : Hid ((l.take n).length = n) := by rw [List.length_take, HN.out]; exact Nat.min_eq_left (by omega)
    have HLB : Hid ((l.drop n).length = 4) := by rw [List.length_drop, HN.out]; show n + 4 - n = 4; omega
    rw [show n + 4 - n = 4 by omega] at HB
    have HST : Hid (∀ k, Calls Try.prog 19 #[.int .u32 (more 0 (l.take n)), .slice (some (ad.add n)) 4 (c - n)] (w.drewN k) fun e w' => e = .returned (.bool (l.drop n == tl (more 0 (l.take n)))) ∧ w.drewN k = w') :=
      fun k => stands_any _ _ _ _ (HB.out.drewN k) HLB.out
    cases hq : l.drop n == tl (more 0 (l.take n)) with
    | false =>
      rw [hq] at HST
      have HQ := Lib.hid hq; clear hq
      go_enter Try.func12, Try.ntmps12
      go_wp2
      go_quiet ((first
        | (go_at_call 8; exact quiet_left (crc_sum _ (l.take n) _ (HF.out.drewN _) (by rw [HLF.out]; omega)))
        | (go_at_call 19; exact quiet_left (HST.out _))))
      go_wp2
      go_ret2
      exact get_bad HN.out HQ.out ((Turn.refl _ w).drewN _)
    | true =>
      rw [hq] at HST
      have HQ := Lib.hid hq; clear hq
      have hmk := run_make_row' (P := Try.prog) 22 5 (.int .u8 0) 1 Try.underlying22 u8_info rfl .i64 .i64 n (by omega) (by omega)
      obtain ⟨M, hM⟩ : ∃ M, M = (madeCells #[Value.int .u8 0] n).toList := ⟨_, rfl⟩
      have hmk2 : ∀ w : World, w.alloc (.cells (madeCells #[.int .u8 0] n) 5) = w.alloc (.cells M.toArray 5) := fun w => by rw [hM, Array.toArray_toList]
      simp only [hmk2] at hmk
      clear hmk2
      obtain ⟨X, hX⟩ : ∃ X, X = (l.take n).map bv := ⟨_, rfl⟩
      have HXL : Hid (X.length = n) := by rw [hX, List.length_map, HLF.out]; trivial
      have HML : Hid (M.length = n) := by rw [hM, Array.length_toList, size_madeCells]; trivial
      have HS : Hid (∀ k, 0 < (l.take n).length → ∃ ad', some ad = some ad' ∧ ∀ j v, X[j]? = some v → ((w.drewN k).alloc (.cells M.toArray 5)).cell? (ad'.add j) = some v) := fun k => copy_src (HF.out.drewN k) hX
      have HX := Lib.hid hX; clear hX hM
      have HG : Hid (∀ k, ((w.drewN k).alloc (.cells M.toArray 5)).heap[w.heap.size]? = some (.cells M.toArray 5 (0, 0))) := fun k => heap_alloc_new (w.drewN k) _
      have HBL : Hid (∀ k, Below w.heap.size w ((w.drewN k).alloc (.cells M.toArray 5))) := fun k => Turn.below (((Turn.refl (fun _ => False) w).drewN k).alloc _) (Nat.le_refl _) (fun _ f => f.elim)
      go_enter Try.func12, Try.ntmps12
      go_wp2
      go_quiet ((first
        | (go_at_call 8; exact quiet_left (crc_sum _ (l.take n) _ (HF.out.drewN _) (by rw [HLF.out]; omega)))
        | (go_at_call 19; exact quiet_left (HST.out _))))
      go_wp2_with (with_reducible refine wpList_copy_splice (o := ⟨some 26, _, _, _, _, _⟩) rfl (.tmp 22) (.tmp 25) 22 22 rfl 5 Try.underlying22 u8_size (some ⟨w.heap.size, 0, none⟩) (some ad) n n n c rfl rfl w.heap.size 0 M 5 (HG.out _) X (by rw [HXL.out]; exact (Nat.min_self _).symm) (fun h => ⟨rfl, HS.out _ (by rw [HLF.out, ← HXL.out]; exact h)⟩) (by rw [HXL.out, HML.out]; omega) (by rw [HX.out]; exact bv_one _) w.heap.size w (HBL.out _) (Nat.le_refl _) ?_; intro w2 HG2 hB2; have HT2 := Lib.hid (Below.turned hB2); clear hB2)
      go_ret2
      have h := HG2.out
      rw [HX.out, splice_full (by rw [HML.out, List.length_map, HLF.out])] at h
      have hb := Box.by h (by rw [HLF.out]; simp only [maxLen]; omega)
      rw [HLF.out] at hb
      exact get_good HN.out HQ.out hb.rd HT2.out

set_option maxRecDepth 100000 in
set_option maxHeartbeats 2000000 in
theorem ref_get (v : Value) (l : List UInt8) (w : World) (hv : Rd w v l) (hl : l.length ≤ 1000000) :
    Calls Try.prog 13 #[v] w (GetPost w l) := by
  have HV := Lib.hid hv
  obtain ⟨A, c, rfl, _⟩ := hv
  by_cases h4 : l.length < 4
  · go_enter Try.func13, Try.ntmps13
    go_wp2
    go_ret2
    exact get_few h4 (Turn.refl _ _)
  · obtain ⟨n, hn⟩ : ∃ n, l.length = n + 4 := ⟨l.length - 4, by omega⟩
    obtain ⟨ad, rfl⟩ := HV.out.some_at (by omega)
    have hcap := HV.out.fits.2
    rw [hn] at hcap hl HV
    have HN := Lib.hid hn
    rw [hn]
    clear hn h4
    unfold maxLen at hcap
    obtain ⟨hc1, hc2⟩ := hcap
    have HF := Lib.hid (HV.out.front n (by omega))
    have HB := Lib.hid (HV.out.back n (by omega))
    have HLF : Hid ((l.take n).length = n) := by rw [List.length_take, HN.out]; exact Nat.min_eq_left (by omega)
    rw [show n + 4 - n = 4 by omega] at HB
    obtain ⟨s, hs⟩ : ∃ s, s = more 0 (l.take n) := ⟨_, rfl⟩
    have hs2 : Hid (s < 4294967296) := by rw [hs]; exact more_lt _ _
    have HSM := Lib.hid (fun W (h : Rd W (.slice (some ad) n c) (l.take n)) => hs ▸ ref_sum _ (l.take n) W h (by rw [HLF.out]; omega))
    have e0 := (HB.out.drew).string
    have hsl : ∀ W, (Instr.slice 22 (.slice (some ad) (n + 4) c) (some (.int .i64 (n : Int))) none none).run Try.prog W = .ok (.slice (some (ad.add n)) 4 (c - n)) W := fun W => by
      have hcn : ¬ c = n := by omega
      have h := run_slice_l (P := Try.prog) (w := W) 22 (some ad) (n + 4) c Try.underlying22 .i64 (n : Int) (by omega) (by omega)
      rw [h]
      simp [go_sem, hcn]
    have hwr : IntKind.i64.wrap (n : Int) = (n : Int) := IntWalk.i64_in _ (by omega)
    cases hq : tl s == l.drop n with
    | false =>
      have HQ : Hid ((l.drop n == tl (more 0 (l.take n))) = false) := by rw [← hs]; rw [beq_eq_false_iff_ne] at hq ⊢; exact fun e => hq e.symm
      clear hs
      go_enter Try.func13, Try.ntmps13
      go_wp2_with fail
      go_region_with (first
        | (go_at_call 9; refine (HSM.out _ (HF.out.drew)).mono ?_; rintro e w3 ⟨rfl, rfl⟩)
        | (go_at_call 20; refine (tail_any s w.drew hs2).mono ?_; rintro e w2 ⟨v2, rfl, hb2, ht2, _⟩; obtain ⟨A2, c2, rfl⟩ := hb2.shape; have e1 := ((HB.out.drew).later ht2).string; have e2 := hb2.rd.string; have HT2 := Lib.hid ht2; clear ht2 hb2))
      all_goals
        go_wp2_with fail
        go_ret2
        exact get_bad HN.out HQ.out ((Turn.refl _ w).drew.trans HT2.out (fun _ _ f => f))
    | true =>
      have HQ : Hid ((l.drop n == tl (more 0 (l.take n))) = true) := by rw [← hs]; rw [beq_iff_eq] at hq ⊢; exact hq.symm
      clear hs
      go_enter Try.func13, Try.ntmps13
      go_wp2_with fail
      go_region_with (first
        | (go_at_call 9; refine (HSM.out _ (HF.out.drew)).mono ?_; rintro e w3 ⟨rfl, rfl⟩)
        | (go_at_call 20; refine (tail_any s w.drew hs2).mono ?_; rintro e w2 ⟨v2, rfl, hb2, ht2, _⟩; obtain ⟨A2, c2, rfl⟩ := hb2.shape; have e1 := ((HB.out.drew).later ht2).string; have e2 := hb2.rd.string; have HT2 := Lib.hid ht2; clear ht2 hb2))
      all_goals
        go_wp2_with fail
        go_ret2
        exact get_good HN.out HQ.out ((HF.out.drew).later HT2.out) ((Turn.refl _ w).drew.trans HT2.out (fun _ _ f => f))

end Go.Proofs.Ytnnhmnfgmpmkjaa
