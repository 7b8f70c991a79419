
/-
  Bytes with their check, as the document puts them; what is got of bytes, by the program and by the document.
-/
import Derived.Test.YtjhgbbmghgeeoaaCd
import Derived.Deep.QuietTactic
import Derived.BigQuiet
import Derived.Deep.RegionWith
namespace Go.Proofs.Ytjhgbbmghgeeoaa
open Go.RowKit

/-- What is got of bytes, and the fault. -/
def gets (l : List UInt8) : List UInt8 × Nat :=
  if l.length < 4 then ([], 3) else if l.drop (l.length - 4) == tl (more 0 (l.take (l.length - 4))) then (l.take (l.length - 4), 0) else ([], 5)

def GetPost (w : World) (l : List UInt8) (e : Ending) (w' : World) : Prop := ∃ v', e = .returned (.tuple #[v', .int .i64 (gets l).2]) ∧ Rd w' v' (gets l).1 ∧ Turn (fun _ => False) w w'
/-- Likewise, and where it lies. -/
def GetAt (Loc : Nat → Prop) (w : World) (l : List UInt8) (e : Ending) (w' : World) : Prop :=
  ∃ v', e = .returned (.tuple #[v', .int .i64 (gets l).2]) ∧ Rd w' v' (gets l).1 ∧ Turn (fun _ => False) w w' ∧ ∀ k, v'.ownBlock = some k → Loc k
theorem GetAt.post {Loc : Nat → Prop} {w w' : World} {l : List UInt8} {e : Ending} (h : GetAt Loc w l e w') : GetPost w l e w' := by
  obtain ⟨v', h1, h2, h3, _⟩ := h
  exact ⟨v', h1, h2, h3⟩

theorem get_few {Loc : Nat → Prop} {w w' : World} {l : List UInt8} (h : l.length < 4) (ht : Turn (fun _ => False) w w') : GetAt Loc w l (.returned (.tuple #[.slice none 0 0, .int .i64 3])) w' := by
  have e : gets l = ([], 3) := by unfold gets; rw [if_pos h]
  exact ⟨_, by rw [e]; rfl, by rw [e]; exact Rd.none _, ht, fun _ h => by cases h⟩
theorem get_bad {Loc : Nat → Prop} {w w' : World} {l : List UInt8} {n : Nat} (h : l.length = n + 4) (hs : (l.drop n == tl (more 0 (l.take n))) = false) (ht : Turn (fun _ => False) w w') : GetAt Loc w l (.returned (.tuple #[.slice none 0 0, .int .i64 5])) w' := by
  have e : gets l = ([], 5) := by unfold gets; rw [if_neg (by omega), show l.length - 4 = n by omega, hs]; rfl
  exact ⟨_, by rw [e]; rfl, by rw [e]; exact Rd.none _, ht, fun _ h => by cases h⟩
theorem get_good {Loc : Nat → Prop} {w w' : World} {l : List UInt8} {n : Nat} {v : Value} (h : l.length = n + 4) (hs : (l.drop n == tl (more 0 (l.take n))) = true) (hv : Rd w' v (l.take n)) (ht : Turn (fun _ => False) w w') (hk : ∀ k, v.ownBlock = some k → Loc k) :
    GetAt Loc w l (.returned (.tuple #[v, .int .i64 0])) w' := by
  have e : gets l = (l.take n, 0) := by unfold gets; rw [if_neg (by omega), show l.length - 4 = n by omega, hs]; rfl
  exact ⟨_, by rw [e]; rfl, by rw [e]; exact hv, ht, hk⟩

set_option maxRecDepth 100000 in
set_option maxHeartbeats 1000000 in
theorem crc_get_at (Loc : Nat → Prop) (v : Value) (l : List UInt8) (w : World) (hv : Rd w v l) (hl : l.length ≤ 1000000) (hloc : Hid (∀ k, w.heap.size ≤ k → Loc k)) :
    Calls Try.prog 20 #[v] w (GetAt Loc w l) := by
  have HV := Lib.hid hv
  obtain ⟨A, c, rfl, _⟩ := hv
  by_cases h4 : l.length < 4
  · go_enter Try.func20, Try.ntmps20
    go_wp2
    go_ret2
    exact get_few h4 (Turn.refl _ _)
  · obtain ⟨n, hn⟩ : ∃ n, l.length = n + 4 := ⟨l.length - 4, by omega⟩
    obtain ⟨ad, rfl⟩ := HV.out.some_at (by omega)
    have hcap := HV.out.fits.2
    rw [hn] at hcap hl HV
    have HN := Lib.hid hn
    rw [hn]
    clear hn h4
    unfold maxLen at hcap
    obtain ⟨hc1, hc2⟩ := hcap
    have HF := Lib.hid (HV.out.front n (by omega))
    have HB := Lib.hid (HV.out.back n (by omega))
    have HLF : Hid ((l.take n).length = n) := by rw [List.length_take, HN.out]; exact Nat.min_eq_left (by omega)
    have HLB : Hid ((l.drop n).length = 4) := by rw [List.length_drop, HN.out]; show n + 4 - n = 4; omega
    rw [show n + 4 - n = 4 by omega] at HB
    have HST : Hid (∀ k, Calls Try.prog 32 #[.int .u32 (more 0 (l.take n)), .slice (some (ad.add n)) 4 (c - n)] (w.drewN k) fun e w' => e = .returned (.bool (l.drop n == tl (more 0 (l.take n)))) ∧ w.drewN k = w') :=
      fun k => stands_any _ _ _ _ (HB.out.drewN k) HLB.out
    cases hq : l.drop n == tl (more 0 (l.take n)) with
    | false =>
      rw [hq] at HST
      have HQ := Lib.hid hq; clear hq
      go_enter Try.func20, Try.ntmps20
      go_wp2
      go_quiet ((first
        | (go_at_call 26; exact quiet_left (crc_sum _ (l.take n) _ (HF.out.drewN _) (by rw [HLF.out]; omega)))
        | (go_at_call 32; exact quiet_left (HST.out _))))
      go_wp2
      go_ret2
      exact get_bad HN.out HQ.out ((Turn.refl _ w).drewN _)
    | true =>
      rw [hq] at HST
      have HQ := Lib.hid hq; clear hq
      have hmk := run_make_row' (P := Try.prog) 22 5 (.int .u8 0) 1 Try.underlying22 u8_info rfl .i64 .i64 n (by omega) (by omega)
      obtain ⟨M, hM⟩ : ∃ M, M = (madeCells #[Value.int .u8 0] n).toList := ⟨_, rfl⟩
      have hmk2 : ∀ w : World, w.alloc (.cells (madeCells #[.int .u8 0] n) 5) = w.alloc (.cells M.toArray 5) := fun w => by rw [hM, Array.toArray_toList]
      simp only [hmk2] at hmk
      clear hmk2
      obtain ⟨X, hX⟩ : ∃ X, X = (l.take n).map bv := ⟨_, rfl⟩
      have HXL : Hid (X.length = n) := by rw [hX, List.length_map, HLF.out]; trivial
      have HML : Hid (M.length = n) := by rw [hM, Array.length_toList, size_madeCells]; trivial
      have HS : Hid (∀ k, 0 < (l.take n).length → ∃ ad', some ad = some ad' ∧ ∀ j v, X[j]? = some v → ((w.drewN k).alloc (.cells M.toArray 5)).cell? (ad'.add j) = some v) := fun k => copy_src (HF.out.drewN k) hX
      have HX := Lib.hid hX; clear hX hM
      have HG : Hid (∀ k, ((w.drewN k).alloc (.cells M.toArray 5)).heap[w.heap.size]? = some (.cells M.toArray 5 (0, 0))) := fun k => heap_alloc_new (w.drewN k) _
      have HBL : Hid (∀ k, Below w.heap.size w ((w.drewN k).alloc (.cells M.toArray 5))) := fun k => Turn.below (((Turn.refl (fun _ => False) w).drewN k).alloc _) (Nat.le_refl _) (fun _ f => f.elim)
      go_enter Try.func20, Try.ntmps20
      go_wp2
      go_quiet ((first
        | (go_at_call 26; exact quiet_left (crc_sum _ (l.take n) _ (HF.out.drewN _) (by rw [HLF.out]; omega)))
        | (go_at_call 32; exact quiet_left (HST.out _))))
      go_wp2_with (with_reducible refine wpList_copy_splice (o := ⟨some 26, _, _, _, _, _⟩) rfl (.tmp 22) (.tmp 25) 22 22 rfl 5 Try.underlying22 u8_size (some ⟨w.heap.size, 0, none⟩) (some ad) n n n c rfl rfl w.heap.size 0 M 5 (HG.out _) X (by rw [HXL.out]; exact (Nat.min_self _).symm) (fun h => ⟨rfl, HS.out _ (by rw [HLF.out, ← HXL.out]; exact h)⟩) (by rw [HXL.out, HML.out]; omega) (by rw [HX.out]; exact bv_one _) w.heap.size w (HBL.out _) (Nat.le_refl _) ?_; intro w2 HG2 hB2; have HT2 := Lib.hid (Below.turned hB2); clear hB2)
      go_ret2
      have h := HG2.out
      rw [HX.out, splice_full (by rw [HML.out, List.length_map, HLF.out])] at h
      have hb := Box.by h (by rw [HLF.out]; simp only [maxLen]; omega)
      rw [HLF.out] at hb
      exact get_good HN.out HQ.out hb.rd HT2.out (fun k hk => hloc.out k (Nat.le_of_eq (Option.some.inj hk)))

set_option maxRecDepth 100000 in
set_option maxHeartbeats 2000000 in
theorem ref_get_at (Loc : Nat → Prop) (v : Value) (l : List UInt8) (w : World) (hv : Rd w v l) (hl : l.length ≤ 1000000) (hloc : Hid (∀ k, v.ownBlock = some k → Loc k)) :
    Calls Try.prog 22 #[v] w (GetAt Loc w l) := by
  have HV := Lib.hid hv
  obtain ⟨A, c, rfl, _⟩ := hv
  by_cases h4 : l.length < 4
  · go_enter Try.func22, Try.ntmps22
    go_wp2
    go_ret2
    exact get_few h4 (Turn.refl _ _)
  · obtain ⟨n, hn⟩ : ∃ n, l.length = n + 4 := ⟨l.length - 4, by omega⟩
    obtain ⟨ad, rfl⟩ := HV.out.some_at (by omega)
    have hcap := HV.out.fits.2
    rw [hn] at hcap hl HV
    have HN := Lib.hid hn
    rw [hn]
    clear hn h4
    unfold maxLen at hcap
    obtain ⟨hc1, hc2⟩ := hcap
    have HF := Lib.hid (HV.out.front n (by omega))
    have HB := Lib.hid (HV.out.back n (by omega))
    have HLF : Hid ((l.take n).length = n) := by rw [List.length_take, HN.out]; exact Nat.min_eq_left (by omega)
    rw [show n + 4 - n = 4 by omega] at HB
    obtain ⟨s, hs⟩ : ∃ s, s = more 0 (l.take n) := ⟨_, rfl⟩
    have hs2 : Hid (s < 4294967296) := by rw [hs]; exact more_lt _ _
    have HSM := Lib.hid (fun W (h : Rd W (.slice (some ad) n c) (l.take n)) => hs ▸ ref_sum _ (l.take n) W h (by rw [HLF.out]; omega))
    have e0 := (HB.out.drew).string
    have hsl : ∀ W, (Instr.slice 22 (.slice (some ad) (n + 4) c) (some (.int .i64 (n : Int))) none none).run Try.prog W = .ok (.slice (some (ad.add n)) 4 (c - n)) W := fun W => by
      have hcn : ¬ c = n := by omega
      have h := run_slice_l (P := Try.prog) (w := W) 22 (some ad) (n + 4) c Try.underlying22 .i64 (n : Int) (by omega) (by omega)
      rw [h]
      simp [go_sem, hcn]
    have hwr : IntKind.i64.wrap (n : Int) = (n : Int) := IntWalk.i64_in _ (by omega)
    cases hq : tl s == l.drop n with
    | false =>
      have HQ : Hid ((l.drop n == tl (more 0 (l.take n))) = false) := by rw [← hs]; rw [beq_eq_false_iff_ne] at hq ⊢; exact fun e => hq e.symm
      clear hs
      go_enter Try.func22, Try.ntmps22
      go_wp2_with fail
      go_region_with (first
        | (go_at_call 36; refine (HSM.out _ (HF.out.drew)).mono ?_; rintro e w3 ⟨rfl, rfl⟩)
        | (go_at_call 35; refine (tail_any s w.drew hs2).mono ?_; rintro e w2 ⟨v2, rfl, hb2, ht2, _⟩; obtain ⟨A2, c2, rfl⟩ := hb2.shape; have e1 := ((HB.out.drew).later ht2).string; have e2 := hb2.rd.string; have HT2 := Lib.hid ht2; clear ht2 hb2))
      all_goals
        go_wp2_with fail
        go_ret2
        exact get_bad HN.out HQ.out ((Turn.refl _ w).drew.trans HT2.out (fun _ _ f => f))
    | true =>
      have HQ : Hid ((l.drop n == tl (more 0 (l.take n))) = true) := by rw [← hs]; rw [beq_iff_eq] at hq ⊢; exact hq.symm
      clear hs
      go_enter Try.func22, Try.ntmps22
      go_wp2_with fail
      go_region_with (first
        | (go_at_call 36; refine (HSM.out _ (HF.out.drew)).mono ?_; rintro e w3 ⟨rfl, rfl⟩)
        | (go_at_call 35; refine (tail_any s w.drew hs2).mono ?_; rintro e w2 ⟨v2, rfl, hb2, ht2, _⟩; obtain ⟨A2, c2, rfl⟩ := hb2.shape; have e1 := ((HB.out.drew).later ht2).string; have e2 := hb2.rd.string; have HT2 := Lib.hid ht2; clear ht2 hb2))
      all_goals
        go_wp2_with fail
        go_ret2
        exact get_good HN.out HQ.out ((HF.out.drew).later HT2.out) ((Turn.refl _ w).drew.trans HT2.out (fun _ _ f => f)) (fun k hk => hloc.out k hk)

theorem crc_get (v : Value) (l : List UInt8) (w : World) (hv : Rd w v l) (hl : l.length ≤ 1000000) : Calls Try.prog 20 #[v] w (GetPost w l) :=
  (crc_get_at (fun _ => True) v l w hv hl (fun _ _ => trivial)).mono fun _ _ h => h.post
theorem ref_get (v : Value) (l : List UInt8) (w : World) (hv : Rd w v l) (hl : l.length ≤ 1000000) : Calls Try.prog 22 #[v] w (GetPost w l) :=
  (ref_get_at (fun _ => True) v l w hv hl (fun _ _ => trivial)).mono fun _ _ h => h.post

end Go.Proofs.Ytjhgbbmghgeeoaa
