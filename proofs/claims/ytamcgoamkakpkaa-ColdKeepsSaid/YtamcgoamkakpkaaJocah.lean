/-
  Texts laid one behind the other: Hjb Hkb Ih Dpr Dcb Dcn Es Dpm.
-/
import Derived.Test.YtamcgoamkakpkaaJocag
import Derived.Test.YtamcgoamkakpkaaJocab
import Derived.OwnWalkIn
import Derived.Test.YtamcgoamkakpkaaJocac
import Derived.Test.YtamcgoamkakpkaaJocaa
import Derived.Laws.OwnMore

/-
  A tree's keys, rising, handed to a round each, as far as it wants them (keys string, values []byte).
-/
namespace Go.Proofs.Ytamcgoamkakpkaa.omb
open Go.RowKit Go.Shelf
attribute [local go_sem] Oper.semAt_some wide_fn

/-- A pair, handed to a round. -/
abbrev prs (x : (List UInt8) × SlB) : Array Value := #[(.string ⟨x.1.toArray⟩), (.slice x.2.A x.2.n x.2.c)]
/-- What a tree has to tell: what is not ahead. -/
def Kept (ah : (List UInt8) → Bool) (x : Tr (List UInt8) SlB) : List ((List UInt8) × SlB) := x.flat.filter fun p => !ah p.1
/-- What is ahead stands ahead. -/
def Falls (ah : (List UInt8) → Bool) : Prop := ∀ a b, Op.bytesLess a b = true → ah b = true → ah a = true
theorem kept_ahead {ah : (List UInt8) → Bool} (hf : Falls ah) {l r : Tr (List UInt8) SlB} {k : (List UInt8)} {v : SlB} (hu : Up Op.bytesLess (Tr.node l k v r).flat) (hk : ah k = true) : Kept ah (.node l k v r) = Kept ah r := by
  obtain ⟨_, _, h3⟩ := up_parts hu
  unfold Kept
  rw [flat_node, List.filter_append, List.filter_cons, if_neg (by simp [hk])]
  have : l.flat.filter (fun p => !ah p.1) = [] := by
    rw [List.filter_eq_nil_iff]
    intro p hp
    simp [hf _ _ (h3 p hp) hk]
  rw [this, List.nil_append]
theorem kept_node {ah : (List UInt8) → Bool} {l r : Tr (List UInt8) SlB} {k : (List UInt8)} {v : SlB} (hk : ah k = false) : Kept ah (.node l k v r) = Kept ah l ++ (k, v) :: Kept ah r := by
  unfold Kept
  rw [flat_node, List.filter_append, List.filter_cons, if_pos (by simp [hk])]

/-- A tree that lay at W0, in a world behind rounds. -/
structure Base (S : Nat → Prop) (W0 : World) : Prop where
  far : ∀ g cs, Box W0 g 79 cs → ¬ S g
theorem Base.nd {S : Nat → Prop} {W0 W : World} (h : Base S W0) (ht : Turn S W0 W) {x : Tr (List UInt8) SlB} {p : Value} (hx : Nd W0 x p) : Nd W x p := hx.turn ht h.far
theorem Base.one {S : Nat → Prop} {W0 W : World} (h : Base S W0) (ht : Turn S W0 W) {g : Nat} {k : (List UInt8)} {v : SlB} {pl pr : Value} {n : Nat} (hx : One W0 g k v pl pr n) : One W g k v pl pr n := Box.turn hx ht (h.far g _ hx)

/-- Behind a tree that was told, or a round that wanted no more. -/
def Told (l : Nat) (S : Nat → Prop) (W0 W : World) (J Jx : List ((List UInt8) × SlB) → World → Prop) (L : List ((List UInt8) × SlB)) (e : Ending) (W' : World) : Prop :=
  (e = .returned (.bool true) ∧ J L W' ∧ Turn S W0 W' ∧ Still (l + 1) W W') ∨ (e = .returned (.bool false) ∧ (∃ q, q <+: L ∧ Jx q W') ∧ Still (l + 1) W W')

/-- What a round, and what says what is ahead, promise. -/
structure Rounds (l : Nat) (fa : Nat) (caps : Array Value) (ah : (List UInt8) → Bool) (S : Nat → Prop) (W0 : World) (J Jx : List ((List UInt8) × SlB) → World → Prop) (T : List ((List UInt8) × SlB)) : Prop where
  draws : ∀ pre W, J pre W → J pre W.drew
  enters : ∀ args w, (callFunc fa args).run Try.prog w = .ok (.enter fa args) w
  ahead : ∀ key W, Turn S W0 W → Calls Try.prog fa (#[(.string ⟨key.toArray⟩)] ++ caps) W fun e W' => e = .returned (.bool (ah key)) ∧ W = W'
  yield : ∀ pre x W, J pre W → Turn S W0 W → pre ++ [x] <+: T → YieldAt Fence.wide 0 Try.prog l (prs x) W fun e W' => (e = .returned (.bool true) ∧ J (pre ++ [x]) W' ∧ Turn S W W' ∧ Still (l + 1) W W') ∨ (e = .returned (.bool false) ∧ Jx (pre ++ [x]) W' ∧ Still (l + 1) W W')

set_option maxRecDepth 100000 in
set_option maxHeartbeats 2000000 in
theorem each_any (l fa : Nat) (caps : Array Value) (ah : (List UInt8) → Bool) (S : Nat → Prop) (W0 : World) (J Jx : List ((List UInt8) × SlB) → World → Prop) (T : List ((List UInt8) × SlB)) (hR : Rounds l fa caps ah S W0 J Jx T) (hB : Base S W0) (hfa : Falls ah) (x : Tr (List UInt8) SlB) :
    ∀ (p : Value) (pre : List ((List UInt8) × SlB)) (W : World), Nd W0 x p → Turn S W0 W → J pre W → Up Op.bytesLess x.flat → pre ++ Kept ah x <+: T →
    CallsIn Fence.wide 0 Try.prog 46 #[p, .func (.func fa) #[] caps, .func (.yield l) #[] #[]] W fun e W' => Told l S W0 W J Jx (pre ++ Kept ah x) e W' := by
  induction x with
  | nil =>
    intro p pre W hx ht hj _ _
    obtain rfl : p = .pointer none := hx
    refine callsIn_of_wp Try.func46 rfl trivial ?_ rfl
    simp only [Try.ntmps46, List.size_toArray, List.length_cons, List.length_nil, Nat.reduceAdd, Nat.reduceSub, Array.replicate_succ, Array.replicate_zero, List.push_toArray, List.append_toArray, List.nil_append, List.cons_append]
    gi_wp2
    go_ret
    exact .inl ⟨rfl, by show J (pre ++ []) W; rw [List.append_nil]; exact hj, ht, Still.refl _ _⟩
  | node tl k v tr ihl ihr =>
    intro p pre W hx ht hj hu hT
    obtain ⟨g, pl, pr, rfl, hg, hl, hr⟩ := nd_node hx
    have HG : Hid (∀ W, Turn S W0 W → One W g k v pl pr (tl.cnt + tr.cnt + 1)) := fun W ht => hB.one ht hg
    have HL := Lib.hid hl; have HR := Lib.hid hr; have HRR := Lib.hid hR; have HJ := Lib.hid hj; have HT := Lib.hid ht; have HPT := Lib.hid hT
    obtain ⟨hu1, hu2, _⟩ := up_parts hu
    obtain ⟨pl, rfl⟩ := hl.shape
    obtain ⟨pr, rfl⟩ := hr.shape
    obtain ⟨c0, c1, c2, c3, -⟩ := (HG.out W ht).cells
    have HA := Lib.hid (hR.ahead k W ht)
    have HE := hR.enters
    cases hk : ah k with
    | true =>
      rw [hk] at HA
      have HKE := Lib.hid (kept_ahead hfa hu hk)
      rw [HKE.out] at HPT ⊢
      have HI : Hid (∀ W, Turn S W0 W → J pre W → CallsIn Fence.wide 0 Try.prog 46 #[.pointer pr, .func (.func fa) #[] caps, .func (.yield l) #[] #[]] W fun e W' => Told l S W0 W J Jx (pre ++ Kept ah tr) e W') := fun W ht hj => ihr _ pre W HR.out ht hj hu2 HPT.out
      clear hk hu hu1 hu2 hx hg hl hr hR hj ht hT ihl ihr hB
      refine callsIn_of_wp Try.func46 rfl trivial ?_ rfl
      simp only [Try.ntmps46, List.size_toArray, List.length_cons, List.length_nil, Nat.reduceAdd, Nat.reduceSub, Array.replicate_succ, Array.replicate_zero, List.push_toArray, List.append_toArray, List.nil_append, List.cons_append]
      gi_wp2_with fail
      refine ⟨rfl, (callsIn_wide.2 HA.out).mono ?_⟩
      rintro e w' ⟨rfl, rfl⟩
      gi_wp2_with fail
      refine ⟨rfl, (HI.out W HT.out HJ.out).mono ?_⟩
      rintro e w' (⟨rfl, hh⟩ | ⟨rfl, hh⟩)
      · have HH := Lib.hid hh; clear hh
        gi_wp2
        go_ret
        exact .inl ⟨rfl, HH.out⟩
      · have HH := Lib.hid hh; clear hh
        gi_wp2
        go_ret
        exact .inr ⟨rfl, HH.out⟩
    | false =>
      rw [hk] at HA
      have HKE := Lib.hid (kept_node (l := tl) (r := tr) (v := v) hk)
      have HI : Hid (∀ W, Turn S W0 W → J pre W → CallsIn Fence.wide 0 Try.prog 46 #[.pointer pl, .func (.func fa) #[] caps, .func (.yield l) #[] #[]] W fun e W' => Told l S W0 W J Jx (pre ++ Kept ah tl) e W') :=
        fun W ht hj => ihl _ pre W HL.out ht hj hu1 ((List.prefix_append_right_inj pre).2 (by rw [HKE.out]; exact List.prefix_append _ _) |>.trans HPT.out)
      have HI2 : Hid (∀ W, Turn S W0 W → J (pre ++ Kept ah tl ++ [(k, v)]) W → CallsIn Fence.wide 0 Try.prog 46 #[.pointer pr, .func (.func fa) #[] caps, .func (.yield l) #[] #[]] W fun e W' => Told l S W0 W J Jx (pre ++ Kept ah (Tr.node tl k v tr)) e W') := fun W ht hj => by
        have h := ihr _ (pre ++ Kept ah tl ++ [(k, v)]) W HR.out ht hj hu2
        have e : pre ++ Kept ah tl ++ [(k, v)] ++ Kept ah tr = pre ++ Kept ah (Tr.node tl k v tr) := by rw [HKE.out]; simp
        rw [e] at h
        exact h HPT.out
      have HY : Hid (∀ W, Turn S W0 W → J (pre ++ Kept ah tl) W → YieldAt Fence.wide 0 Try.prog l #[(.string ⟨k.toArray⟩), (.slice v.A v.n v.c)] W fun e W' => (e = .returned (.bool true) ∧ J (pre ++ Kept ah tl ++ [(k, v)]) W' ∧ Turn S W W' ∧ Still (l + 1) W W') ∨ (e = .returned (.bool false) ∧ Jx (pre ++ Kept ah tl ++ [(k, v)]) W' ∧ Still (l + 1) W W')) :=
        fun W ht hj => HRR.out.yield _ (k, v) W hj ht (List.IsPrefix.trans ⟨Kept ah tr, by rw [HKE.out]; simp⟩ HPT.out)
      clear hk hu hu1 hu2 hx hg hl hr hR hj ht hT ihl ihr hB
      refine callsIn_of_wp Try.func46 rfl trivial ?_ rfl
      simp only [Try.ntmps46, List.size_toArray, List.length_cons, List.length_nil, Nat.reduceAdd, Nat.reduceSub, Array.replicate_succ, Array.replicate_zero, List.push_toArray, List.append_toArray, List.nil_append, List.cons_append]
      gi_wp2_with fail
      refine ⟨rfl, (callsIn_wide.2 HA.out).mono ?_⟩
      rintro e w' ⟨rfl, rfl⟩
      gi_wp2_with fail
      obtain ⟨d0, d1, d2, d3, -⟩ := (HG.out _ HT.out.drew).cells
      refine wpIn_region_any (by kernel_rfl) ?_
      change wpAnyIn _ _ _ _ _ _ _ _ _ (World.drew _)
      refine take_at 0 22 (.pointer (some ⟨g, 0, none⟩)) rfl rfl rfl (by kernel_rfl) (by kernel_rfl) (by kernel_rfl) (fun _ _ _ h => h) ⟨Or.inl ⟨by rfl, by intro w; go_simp⟩, fun _ => rfl⟩ ?_
      simp only [List.setIfInBounds_toArray, List.set_cons_zero, List.set_cons_succ]
      refine take_at 1 23 (.pointer (some ⟨g, 0, none⟩)) rfl rfl rfl (by kernel_rfl) (by kernel_rfl) (by kernel_rfl) (fun _ _ _ h => h) ⟨Or.inl ⟨by rfl, by intro w; go_simp⟩, fun _ => rfl⟩ ?_
      simp only [List.setIfInBounds_toArray, List.set_cons_zero, List.set_cons_succ]
      refine take_at 2 24 (.pointer (some ⟨g, 2, none⟩)) rfl rfl rfl (by kernel_rfl) (by kernel_rfl) (by kernel_rfl) (fun _ _ _ h => h) ⟨Or.inl ⟨by rfl, by intro w; go_simp⟩, fun _ => rfl⟩ ?_
      simp only [List.setIfInBounds_toArray, List.set_cons_zero, List.set_cons_succ]
      refine take_at 4 26 (.func (.func fa) #[] caps) rfl rfl rfl (by kernel_rfl) (by kernel_rfl) (by kernel_rfl) (fun _ _ _ h => h) ⟨Or.inl ⟨by rfl, by intro w; go_simp⟩, fun _ => rfl⟩ ?_
      simp only [List.setIfInBounds_toArray, List.set_cons_zero, List.set_cons_succ]
      refine take_at 5 27 (.func (.yield l) #[] #[]) rfl rfl rfl (by kernel_rfl) (by kernel_rfl) (by kernel_rfl) (fun _ _ _ h => h) ⟨Or.inl ⟨by rfl, by intro w; go_simp⟩, fun _ => rfl⟩ ?_
      simp only [List.setIfInBounds_toArray, List.set_cons_zero, List.set_cons_succ]
      refine wpAnyIn_ready (rs := [3]) (by kernel_rfl) (by simp) (AllReadyIn.cons rfl (fun K hK => ?_) AllReadyIn.nil)
      go_simp
      refine hK _ _ ?_
      clear hK K
      refine wpAnyIn_ready (rs := [6]) (by kernel_rfl) (by simp) (AllReadyIn.cons rfl (fun K hK => ?_) AllReadyIn.nil)
      go_simp
      refine ⟨rfl, (HI.out _ HT.out.drew (HRR.out.draws _ _ HJ.out)).mono ?_⟩
      rintro e W1 (⟨rfl, hj1, ht1, hs1⟩ | ⟨rfl, hq1, hs1⟩)
      · have HS1 := Lib.hid hs1; have HT1 := Lib.hid ht1
        obtain ⟨e0, e1, e2, e3, -⟩ := (HG.out _ ht1).cells
        obtain ⟨fn, tm, asg, bo, hy, hrr⟩ := HY.out W1 ht1 hj1
        have HRO := Lib.hid hrr
        clear hj1 ht1 hs1 hrr d0 d1 d2 d3
        refine hK _ _ ?_
        clear hK K
        refine take_at 7 29 (.bool true) rfl rfl rfl (by kernel_rfl) (by kernel_rfl) (by kernel_rfl) (fun _ _ _ h => h) ⟨Or.inl ⟨by rfl, by intro w; go_simp⟩, fun _ => rfl⟩ ?_
        simp only [List.setIfInBounds_toArray, List.set_cons_zero, List.set_cons_succ]
        refine take_at 8 30 (.func (.yield l) #[] #[]) rfl rfl rfl (by kernel_rfl) (by kernel_rfl) (by kernel_rfl) (fun _ _ _ h => h) ⟨Or.inl ⟨by rfl, by intro w; go_simp⟩, fun _ => rfl⟩ ?_
        simp only [List.setIfInBounds_toArray, List.set_cons_zero, List.set_cons_succ]
        refine take_at 9 31 (.pointer (some ⟨g, 0, none⟩)) rfl rfl rfl (by kernel_rfl) (by kernel_rfl) (by kernel_rfl) (fun _ _ _ h => h) ⟨Or.inl ⟨by rfl, by intro w; go_simp⟩, fun _ => rfl⟩ ?_
        simp only [List.setIfInBounds_toArray, List.set_cons_zero, List.set_cons_succ]
        refine take_at 10 32 (.pointer (some ⟨g, 0, none⟩)) rfl rfl rfl (by kernel_rfl) (by kernel_rfl) (by kernel_rfl) (fun _ _ _ h => h) ⟨Or.inl ⟨by rfl, by intro w; go_simp⟩, fun _ => rfl⟩ ?_
        simp only [List.setIfInBounds_toArray, List.set_cons_zero, List.set_cons_succ]
        refine take_at 11 33 (.pointer (some ⟨g, 0, none⟩)) rfl rfl rfl (by kernel_rfl) (by kernel_rfl) (by kernel_rfl) (fun _ _ _ h => h) ⟨Or.inl ⟨by rfl, by intro w; go_simp⟩, fun _ => rfl⟩ ?_
        simp only [List.setIfInBounds_toArray, List.set_cons_zero, List.set_cons_succ]
        refine take_at 13 35 (.pointer (some ⟨g, 0, none⟩)) rfl rfl rfl (by kernel_rfl) (by kernel_rfl) (by kernel_rfl) (fun _ _ _ h => h) ⟨Or.inl ⟨by rfl, by intro w; go_simp⟩, fun _ => rfl⟩ ?_
        simp only [List.setIfInBounds_toArray, List.set_cons_zero, List.set_cons_succ]
        refine take_at 14 36 (.pointer (some ⟨g, 0, none⟩)) rfl rfl rfl (by kernel_rfl) (by kernel_rfl) (by kernel_rfl) (fun _ _ _ h => h) ⟨Or.inl ⟨by rfl, by intro w; go_simp⟩, fun _ => rfl⟩ ?_
        simp only [List.setIfInBounds_toArray, List.set_cons_zero, List.set_cons_succ]
        refine take_at 15 37 (.pointer (some ⟨g, 1, none⟩)) rfl rfl rfl (by kernel_rfl) (by kernel_rfl) (by kernel_rfl) (fun _ _ _ h => h) ⟨Or.inl ⟨by rfl, by intro w; go_simp⟩, fun _ => rfl⟩ ?_
        simp only [List.setIfInBounds_toArray, List.set_cons_zero, List.set_cons_succ]
        refine wpAnyIn_ready (rs := [12, 16]) (by kernel_rfl) (by simp) (AllReadyIn.cons rfl (fun K hK => ?_) (AllReadyIn.cons rfl (fun K hK => ?_) AllReadyIn.nil))
        · go_simp
          refine hK _ _ ?_
          clear hK K
          refine wpAnyIn_ready (rs := [16]) (by kernel_rfl) (by simp) (AllReadyIn.cons rfl (fun K hK => ?_) AllReadyIn.nil)
          go_simp
          refine hK _ _ ?_
          clear hK K
          refine wpAnyIn_ready (rs := [17]) (by kernel_rfl) (by simp) (AllReadyIn.cons rfl (fun K hK => ?_) AllReadyIn.nil)
          go_simp
          refine ⟨rfl, HRO.out.mono ?_⟩
          rintro e W2 (⟨rfl, hj2, ht2, hs2⟩ | ⟨rfl, hx2, hs2⟩)
          · have HS2 := Lib.hid hs2; have HT2 := Lib.hid (HT1.out.trans ht2 (fun _ _ s => s)); have HJ2 := Lib.hid hj2
            obtain ⟨f0, f1, f2, f3, -⟩ := (HG.out _ HT2.out).cells
            clear hs2 ht2 hj2 e0 e1 e2 e3
            refine hK _ _ ?_
            clear hK K
            refine take_at 18 40 (.bool true) rfl rfl rfl (by kernel_rfl) (by kernel_rfl) (by kernel_rfl) (fun _ _ _ h => h) ⟨Or.inl ⟨by rfl, by intro w; go_simp⟩, fun _ => rfl⟩ ?_
            simp only [List.setIfInBounds_toArray, List.set_cons_zero, List.set_cons_succ]
            refine take_at 19 41 (.bool true) rfl rfl rfl (by kernel_rfl) (by kernel_rfl) (by kernel_rfl) (fun _ _ _ h => h) ⟨Or.inl ⟨by rfl, by intro w; go_simp⟩, fun _ => rfl⟩ ?_
            simp only [List.setIfInBounds_toArray, List.set_cons_zero, List.set_cons_succ]
            refine take_at 20 42 (.pointer (some ⟨g, 0, none⟩)) rfl rfl rfl (by kernel_rfl) (by kernel_rfl) (by kernel_rfl) (fun _ _ _ h => h) ⟨Or.inl ⟨by rfl, by intro w; go_simp⟩, fun _ => rfl⟩ ?_
            simp only [List.setIfInBounds_toArray, List.set_cons_zero, List.set_cons_succ]
            refine take_at 21 43 (.pointer (some ⟨g, 0, none⟩)) rfl rfl rfl (by kernel_rfl) (by kernel_rfl) (by kernel_rfl) (fun _ _ _ h => h) ⟨Or.inl ⟨by rfl, by intro w; go_simp⟩, fun _ => rfl⟩ ?_
            simp only [List.setIfInBounds_toArray, List.set_cons_zero, List.set_cons_succ]
            refine take_at 22 44 (.pointer (some ⟨g, 3, none⟩)) rfl rfl rfl (by kernel_rfl) (by kernel_rfl) (by kernel_rfl) (fun _ _ _ h => h) ⟨Or.inl ⟨by rfl, by intro w; go_simp⟩, fun _ => rfl⟩ ?_
            simp only [List.setIfInBounds_toArray, List.set_cons_zero, List.set_cons_succ]
            refine take_at 24 46 (.func (.func fa) #[] caps) rfl rfl rfl (by kernel_rfl) (by kernel_rfl) (by kernel_rfl) (fun _ _ _ h => h) ⟨Or.inl ⟨by rfl, by intro w; go_simp⟩, fun _ => rfl⟩ ?_
            simp only [List.setIfInBounds_toArray, List.set_cons_zero, List.set_cons_succ]
            refine take_at 25 47 (.func (.yield l) #[] #[]) rfl rfl rfl (by kernel_rfl) (by kernel_rfl) (by kernel_rfl) (fun _ _ _ h => h) ⟨Or.inl ⟨by rfl, by intro w; go_simp⟩, fun _ => rfl⟩ ?_
            simp only [List.setIfInBounds_toArray, List.set_cons_zero, List.set_cons_succ]
            refine wpAnyIn_ready (rs := [23]) (by kernel_rfl) (by simp) (AllReadyIn.cons rfl (fun K hK => ?_) AllReadyIn.nil)
            go_simp
            refine hK _ _ ?_
            clear hK K
            refine wpAnyIn_ready (rs := [26]) (by kernel_rfl) (by simp) (AllReadyIn.cons rfl (fun K hK => ?_) AllReadyIn.nil)
            go_simp
            refine ⟨rfl, (HI2.out W2 HT2.out HJ2.out).mono ?_⟩
            rintro e W3 (⟨rfl, hj3, ht3, hs3⟩ | ⟨rfl, hq3, hs3⟩)
            · have HS3 := Lib.hid hs3; have HT3 := Lib.hid ht3; have HJ3 := Lib.hid hj3
              clear hs3 ht3 hj3
              refine hK _ _ ?_
              clear hK K
              refine take_at 27 49 (.bool true) rfl rfl rfl (by kernel_rfl) (by kernel_rfl) (by kernel_rfl) (fun _ _ _ h => h) ⟨Or.inl ⟨by rfl, by intro w; go_simp⟩, fun _ => rfl⟩ ?_
              simp only [List.setIfInBounds_toArray, List.set_cons_zero, List.set_cons_succ]
              refine take_at 28 6 (.bool true) rfl rfl rfl (by kernel_rfl) (by kernel_rfl) (by kernel_rfl) (fun _ _ _ h => h) ⟨Or.inl ⟨by rfl, by intro w; go_simp⟩, fun _ => rfl⟩ ?_
              simp only [List.setIfInBounds_toArray, List.set_cons_zero, List.set_cons_succ]
              refine wpAnyIn_done (by kernel_rfl) ?_ _
              gi_wp2
              go_ret
              exact .inl ⟨rfl, HJ3.out, HT3.out, (Still.turned (Turn.refl _ W).drew).trans (HS1.out.trans (HS2.out.trans HS3.out))⟩
            · have HS3 := Lib.hid hs3; have HQ3 := Lib.hid hq3
              clear hs3 hq3
              refine hK _ _ ?_
              clear hK K
              refine take_at 27 49 (.bool false) rfl rfl rfl (by kernel_rfl) (by kernel_rfl) (by kernel_rfl) (fun _ _ _ h => h) ⟨Or.inl ⟨by rfl, by intro w; go_simp⟩, fun _ => rfl⟩ ?_
              simp only [List.setIfInBounds_toArray, List.set_cons_zero, List.set_cons_succ]
              refine take_at 28 6 (.bool false) rfl rfl rfl (by kernel_rfl) (by kernel_rfl) (by kernel_rfl) (fun _ _ _ h => h) ⟨Or.inl ⟨by rfl, by intro w; go_simp⟩, fun _ => rfl⟩ ?_
              simp only [List.setIfInBounds_toArray, List.set_cons_zero, List.set_cons_succ]
              refine wpAnyIn_done (by kernel_rfl) ?_ _
              gi_wp2
              go_ret
              exact .inr ⟨rfl, HQ3.out, (Still.turned (Turn.refl _ W).drew).trans (HS1.out.trans (HS2.out.trans HS3.out))⟩
          · have HS2 := Lib.hid hs2; have HX2 := Lib.hid hx2
            clear hs2 hx2
            refine hK _ _ ?_
            clear hK K
            refine take_at 18 40 (.bool false) rfl rfl rfl (by kernel_rfl) (by kernel_rfl) (by kernel_rfl) (fun _ _ _ h => h) ⟨Or.inl ⟨by rfl, by intro w; go_simp⟩, fun _ => rfl⟩ ?_
            simp only [List.setIfInBounds_toArray, List.set_cons_zero, List.set_cons_succ]
            refine take_at 19 41 (.bool false) rfl rfl rfl (by kernel_rfl) (by kernel_rfl) (by kernel_rfl) (fun _ _ _ h => h) ⟨Or.inl ⟨by rfl, by intro w; go_simp⟩, fun _ => rfl⟩ ?_
            simp only [List.setIfInBounds_toArray, List.set_cons_zero, List.set_cons_succ]
            refine take_at 20 42 undef rfl rfl rfl (by kernel_rfl) (by kernel_rfl) (by kernel_rfl) (fun _ _ _ h => h) ⟨Or.inr ⟨by rfl, rfl⟩, fun _ => rfl⟩ ?_
            simp only [List.setIfInBounds_toArray, List.set_cons_zero, List.set_cons_succ]
            refine take_at 21 43 undef rfl rfl rfl (by kernel_rfl) (by kernel_rfl) (by kernel_rfl) (fun _ _ _ h => h) ⟨Or.inr ⟨by rfl, rfl⟩, fun _ => rfl⟩ ?_
            simp only [List.setIfInBounds_toArray, List.set_cons_zero, List.set_cons_succ]
            refine take_at 22 44 undef rfl rfl rfl (by kernel_rfl) (by kernel_rfl) (by kernel_rfl) (fun _ _ _ h => h) ⟨Or.inr ⟨by rfl, rfl⟩, fun _ => rfl⟩ ?_
            simp only [List.setIfInBounds_toArray, List.set_cons_zero, List.set_cons_succ]
            refine take_at 23 45 undef rfl rfl rfl (by kernel_rfl) (by kernel_rfl) (by kernel_rfl) (fun _ _ _ h => h) ⟨Or.inr ⟨by rfl, rfl⟩, fun _ => rfl⟩ ?_
            simp only [List.setIfInBounds_toArray, List.set_cons_zero, List.set_cons_succ]
            refine take_at 24 46 undef rfl rfl rfl (by kernel_rfl) (by kernel_rfl) (by kernel_rfl) (fun _ _ _ h => h) ⟨Or.inr ⟨by rfl, rfl⟩, fun _ => rfl⟩ ?_
            simp only [List.setIfInBounds_toArray, List.set_cons_zero, List.set_cons_succ]
            refine take_at 25 47 undef rfl rfl rfl (by kernel_rfl) (by kernel_rfl) (by kernel_rfl) (fun _ _ _ h => h) ⟨Or.inr ⟨by rfl, rfl⟩, fun _ => rfl⟩ ?_
            simp only [List.setIfInBounds_toArray, List.set_cons_zero, List.set_cons_succ]
            refine wpAnyIn_ready (rs := [26]) (by kernel_rfl) (by simp) (AllReadyIn.cons rfl (fun K hK => ?_) AllReadyIn.nil)
            rw [if_neg (by simp [Region.wanted, yielded])]
            refine ⟨fun f hf => trivial, ?_⟩
            refine hK _ _ ?_
            clear hK K
            refine take_at 27 49 (.bool false) rfl rfl rfl (by kernel_rfl) (by kernel_rfl) (by kernel_rfl) (fun _ _ _ h => h) ⟨Or.inl ⟨by rfl, by intro w; go_simp⟩, fun _ => rfl⟩ ?_
            simp only [List.setIfInBounds_toArray, List.set_cons_zero, List.set_cons_succ]
            refine take_at 28 6 (.bool false) rfl rfl rfl (by kernel_rfl) (by kernel_rfl) (by kernel_rfl) (fun _ _ _ h => h) ⟨Or.inl ⟨by rfl, by intro w; go_simp⟩, fun _ => rfl⟩ ?_
            simp only [List.setIfInBounds_toArray, List.set_cons_zero, List.set_cons_succ]
            refine wpAnyIn_done (by kernel_rfl) ?_ _
            gi_wp2
            go_ret
            exact .inr ⟨rfl, ⟨_, by rw [HKE.out]; exact ⟨Kept ah tr, by simp⟩, HX2.out⟩, (Still.turned (Turn.refl _ W).drew).trans (HS1.out.trans HS2.out)⟩
        · go_simp
          refine hK _ _ ?_
          clear hK K
          refine wpAnyIn_ready (rs := [12]) (by kernel_rfl) (by simp) (AllReadyIn.cons rfl (fun K hK => ?_) AllReadyIn.nil)
          go_simp
          refine hK _ _ ?_
          clear hK K
          refine wpAnyIn_ready (rs := [17]) (by kernel_rfl) (by simp) (AllReadyIn.cons rfl (fun K hK => ?_) AllReadyIn.nil)
          go_simp
          refine ⟨rfl, HRO.out.mono ?_⟩
          rintro e W2 (⟨rfl, hj2, ht2, hs2⟩ | ⟨rfl, hx2, hs2⟩)
          · have HS2 := Lib.hid hs2; have HT2 := Lib.hid (HT1.out.trans ht2 (fun _ _ s => s)); have HJ2 := Lib.hid hj2
            obtain ⟨f0, f1, f2, f3, -⟩ := (HG.out _ HT2.out).cells
            clear hs2 ht2 hj2 e0 e1 e2 e3
            refine hK _ _ ?_
            clear hK K
            refine take_at 18 40 (.bool true) rfl rfl rfl (by kernel_rfl) (by kernel_rfl) (by kernel_rfl) (fun _ _ _ h => h) ⟨Or.inl ⟨by rfl, by intro w; go_simp⟩, fun _ => rfl⟩ ?_
            simp only [List.setIfInBounds_toArray, List.set_cons_zero, List.set_cons_succ]
            refine take_at 19 41 (.bool true) rfl rfl rfl (by kernel_rfl) (by kernel_rfl) (by kernel_rfl) (fun _ _ _ h => h) ⟨Or.inl ⟨by rfl, by intro w; go_simp⟩, fun _ => rfl⟩ ?_
            simp only [List.setIfInBounds_toArray, List.set_cons_zero, List.set_cons_succ]
            refine take_at 20 42 (.pointer (some ⟨g, 0, none⟩)) rfl rfl rfl (by kernel_rfl) (by kernel_rfl) (by kernel_rfl) (fun _ _ _ h => h) ⟨Or.inl ⟨by rfl, by intro w; go_simp⟩, fun _ => rfl⟩ ?_
            simp only [List.setIfInBounds_toArray, List.set_cons_zero, List.set_cons_succ]
            refine take_at 21 43 (.pointer (some ⟨g, 0, none⟩)) rfl rfl rfl (by kernel_rfl) (by kernel_rfl) (by kernel_rfl) (fun _ _ _ h => h) ⟨Or.inl ⟨by rfl, by intro w; go_simp⟩, fun _ => rfl⟩ ?_
            simp only [List.setIfInBounds_toArray, List.set_cons_zero, List.set_cons_succ]
            refine take_at 22 44 (.pointer (some ⟨g, 3, none⟩)) rfl rfl rfl (by kernel_rfl) (by kernel_rfl) (by kernel_rfl) (fun _ _ _ h => h) ⟨Or.inl ⟨by rfl, by intro w; go_simp⟩, fun _ => rfl⟩ ?_
            simp only [List.setIfInBounds_toArray, List.set_cons_zero, List.set_cons_succ]
            refine take_at 24 46 (.func (.func fa) #[] caps) rfl rfl rfl (by kernel_rfl) (by kernel_rfl) (by kernel_rfl) (fun _ _ _ h => h) ⟨Or.inl ⟨by rfl, by intro w; go_simp⟩, fun _ => rfl⟩ ?_
            simp only [List.setIfInBounds_toArray, List.set_cons_zero, List.set_cons_succ]
            refine take_at 25 47 (.func (.yield l) #[] #[]) rfl rfl rfl (by kernel_rfl) (by kernel_rfl) (by kernel_rfl) (fun _ _ _ h => h) ⟨Or.inl ⟨by rfl, by intro w; go_simp⟩, fun _ => rfl⟩ ?_
            simp only [List.setIfInBounds_toArray, List.set_cons_zero, List.set_cons_succ]
            refine wpAnyIn_ready (rs := [23]) (by kernel_rfl) (by simp) (AllReadyIn.cons rfl (fun K hK => ?_) AllReadyIn.nil)
            go_simp
            refine hK _ _ ?_
            clear hK K
            refine wpAnyIn_ready (rs := [26]) (by kernel_rfl) (by simp) (AllReadyIn.cons rfl (fun K hK => ?_) AllReadyIn.nil)
            go_simp
            refine ⟨rfl, (HI2.out W2 HT2.out HJ2.out).mono ?_⟩
            rintro e W3 (⟨rfl, hj3, ht3, hs3⟩ | ⟨rfl, hq3, hs3⟩)
            · have HS3 := Lib.hid hs3; have HT3 := Lib.hid ht3; have HJ3 := Lib.hid hj3
              clear hs3 ht3 hj3
              refine hK _ _ ?_
              clear hK K
              refine take_at 27 49 (.bool true) rfl rfl rfl (by kernel_rfl) (by kernel_rfl) (by kernel_rfl) (fun _ _ _ h => h) ⟨Or.inl ⟨by rfl, by intro w; go_simp⟩, fun _ => rfl⟩ ?_
              simp only [List.setIfInBounds_toArray, List.set_cons_zero, List.set_cons_succ]
              refine take_at 28 6 (.bool true) rfl rfl rfl (by kernel_rfl) (by kernel_rfl) (by kernel_rfl) (fun _ _ _ h => h) ⟨Or.inl ⟨by rfl, by intro w; go_simp⟩, fun _ => rfl⟩ ?_
              simp only [List.setIfInBounds_toArray, List.set_cons_zero, List.set_cons_succ]
              refine wpAnyIn_done (by kernel_rfl) ?_ _
              gi_wp2
              go_ret
              exact .inl ⟨rfl, HJ3.out, HT3.out, (Still.turned (Turn.refl _ W).drew).trans (HS1.out.trans (HS2.out.trans HS3.out))⟩
            · have HS3 := Lib.hid hs3; have HQ3 := Lib.hid hq3
              clear hs3 hq3
              refine hK _ _ ?_
              clear hK K
              refine take_at 27 49 (.bool false) rfl rfl rfl (by kernel_rfl) (by kernel_rfl) (by kernel_rfl) (fun _ _ _ h => h) ⟨Or.inl ⟨by rfl, by intro w; go_simp⟩, fun _ => rfl⟩ ?_
              simp only [List.setIfInBounds_toArray, List.set_cons_zero, List.set_cons_succ]
              refine take_at 28 6 (.bool false) rfl rfl rfl (by kernel_rfl) (by kernel_rfl) (by kernel_rfl) (fun _ _ _ h => h) ⟨Or.inl ⟨by rfl, by intro w; go_simp⟩, fun _ => rfl⟩ ?_
              simp only [List.setIfInBounds_toArray, List.set_cons_zero, List.set_cons_succ]
              refine wpAnyIn_done (by kernel_rfl) ?_ _
              gi_wp2
              go_ret
              exact .inr ⟨rfl, HQ3.out, (Still.turned (Turn.refl _ W).drew).trans (HS1.out.trans (HS2.out.trans HS3.out))⟩
          · have HS2 := Lib.hid hs2; have HX2 := Lib.hid hx2
            clear hs2 hx2
            refine hK _ _ ?_
            clear hK K
            refine take_at 18 40 (.bool false) rfl rfl rfl (by kernel_rfl) (by kernel_rfl) (by kernel_rfl) (fun _ _ _ h => h) ⟨Or.inl ⟨by rfl, by intro w; go_simp⟩, fun _ => rfl⟩ ?_
            simp only [List.setIfInBounds_toArray, List.set_cons_zero, List.set_cons_succ]
            refine take_at 19 41 (.bool false) rfl rfl rfl (by kernel_rfl) (by kernel_rfl) (by kernel_rfl) (fun _ _ _ h => h) ⟨Or.inl ⟨by rfl, by intro w; go_simp⟩, fun _ => rfl⟩ ?_
            simp only [List.setIfInBounds_toArray, List.set_cons_zero, List.set_cons_succ]
            refine take_at 20 42 undef rfl rfl rfl (by kernel_rfl) (by kernel_rfl) (by kernel_rfl) (fun _ _ _ h => h) ⟨Or.inr ⟨by rfl, rfl⟩, fun _ => rfl⟩ ?_
            simp only [List.setIfInBounds_toArray, List.set_cons_zero, List.set_cons_succ]
            refine take_at 21 43 undef rfl rfl rfl (by kernel_rfl) (by kernel_rfl) (by kernel_rfl) (fun _ _ _ h => h) ⟨Or.inr ⟨by rfl, rfl⟩, fun _ => rfl⟩ ?_
            simp only [List.setIfInBounds_toArray, List.set_cons_zero, List.set_cons_succ]
            refine take_at 22 44 undef rfl rfl rfl (by kernel_rfl) (by kernel_rfl) (by kernel_rfl) (fun _ _ _ h => h) ⟨Or.inr ⟨by rfl, rfl⟩, fun _ => rfl⟩ ?_
            simp only [List.setIfInBounds_toArray, List.set_cons_zero, List.set_cons_succ]
            refine take_at 23 45 undef rfl rfl rfl (by kernel_rfl) (by kernel_rfl) (by kernel_rfl) (fun _ _ _ h => h) ⟨Or.inr ⟨by rfl, rfl⟩, fun _ => rfl⟩ ?_
            simp only [List.setIfInBounds_toArray, List.set_cons_zero, List.set_cons_succ]
            refine take_at 24 46 undef rfl rfl rfl (by kernel_rfl) (by kernel_rfl) (by kernel_rfl) (fun _ _ _ h => h) ⟨Or.inr ⟨by rfl, rfl⟩, fun _ => rfl⟩ ?_
            simp only [List.setIfInBounds_toArray, List.set_cons_zero, List.set_cons_succ]
            refine take_at 25 47 undef rfl rfl rfl (by kernel_rfl) (by kernel_rfl) (by kernel_rfl) (fun _ _ _ h => h) ⟨Or.inr ⟨by rfl, rfl⟩, fun _ => rfl⟩ ?_
            simp only [List.setIfInBounds_toArray, List.set_cons_zero, List.set_cons_succ]
            refine wpAnyIn_ready (rs := [26]) (by kernel_rfl) (by simp) (AllReadyIn.cons rfl (fun K hK => ?_) AllReadyIn.nil)
            rw [if_neg (by simp [Region.wanted, yielded])]
            refine ⟨fun f hf => trivial, ?_⟩
            refine hK _ _ ?_
            clear hK K
            refine take_at 27 49 (.bool false) rfl rfl rfl (by kernel_rfl) (by kernel_rfl) (by kernel_rfl) (fun _ _ _ h => h) ⟨Or.inl ⟨by rfl, by intro w; go_simp⟩, fun _ => rfl⟩ ?_
            simp only [List.setIfInBounds_toArray, List.set_cons_zero, List.set_cons_succ]
            refine take_at 28 6 (.bool false) rfl rfl rfl (by kernel_rfl) (by kernel_rfl) (by kernel_rfl) (fun _ _ _ h => h) ⟨Or.inl ⟨by rfl, by intro w; go_simp⟩, fun _ => rfl⟩ ?_
            simp only [List.setIfInBounds_toArray, List.set_cons_zero, List.set_cons_succ]
            refine wpAnyIn_done (by kernel_rfl) ?_ _
            gi_wp2
            go_ret
            exact .inr ⟨rfl, ⟨_, by rw [HKE.out]; exact ⟨Kept ah tr, by simp⟩, HX2.out⟩, (Still.turned (Turn.refl _ W).drew).trans (HS1.out.trans HS2.out)⟩
      · have HS1 := Lib.hid hs1; have HQ1 := Lib.hid hq1
        clear hs1 hq1 d0 d1 d2 d3
        refine hK _ _ ?_
        clear hK K
        refine take_at 7 29 (.bool false) rfl rfl rfl (by kernel_rfl) (by kernel_rfl) (by kernel_rfl) (fun _ _ _ h => h) ⟨Or.inl ⟨by rfl, by intro w; go_simp⟩, fun _ => rfl⟩ ?_
        simp only [List.setIfInBounds_toArray, List.set_cons_zero, List.set_cons_succ]
        refine take_at 8 30 undef rfl rfl rfl (by kernel_rfl) (by kernel_rfl) (by kernel_rfl) (fun _ _ _ h => h) ⟨Or.inr ⟨by rfl, rfl⟩, fun _ => rfl⟩ ?_
        simp only [List.setIfInBounds_toArray, List.set_cons_zero, List.set_cons_succ]
        refine take_at 9 31 undef rfl rfl rfl (by kernel_rfl) (by kernel_rfl) (by kernel_rfl) (fun _ _ _ h => h) ⟨Or.inr ⟨by rfl, rfl⟩, fun _ => rfl⟩ ?_
        simp only [List.setIfInBounds_toArray, List.set_cons_zero, List.set_cons_succ]
        refine take_at 10 32 undef rfl rfl rfl (by kernel_rfl) (by kernel_rfl) (by kernel_rfl) (fun _ _ _ h => h) ⟨Or.inr ⟨by rfl, rfl⟩, fun _ => rfl⟩ ?_
        simp only [List.setIfInBounds_toArray, List.set_cons_zero, List.set_cons_succ]
        refine take_at 11 33 undef rfl rfl rfl (by kernel_rfl) (by kernel_rfl) (by kernel_rfl) (fun _ _ _ h => h) ⟨Or.inr ⟨by rfl, rfl⟩, fun _ => rfl⟩ ?_
        simp only [List.setIfInBounds_toArray, List.set_cons_zero, List.set_cons_succ]
        refine take_at 12 34 undef rfl rfl rfl (by kernel_rfl) (by kernel_rfl) (by kernel_rfl) (fun _ _ _ h => h) ⟨Or.inr ⟨by rfl, rfl⟩, fun _ => rfl⟩ ?_
        simp only [List.setIfInBounds_toArray, List.set_cons_zero, List.set_cons_succ]
        refine take_at 13 35 undef rfl rfl rfl (by kernel_rfl) (by kernel_rfl) (by kernel_rfl) (fun _ _ _ h => h) ⟨Or.inr ⟨by rfl, rfl⟩, fun _ => rfl⟩ ?_
        simp only [List.setIfInBounds_toArray, List.set_cons_zero, List.set_cons_succ]
        refine take_at 14 36 undef rfl rfl rfl (by kernel_rfl) (by kernel_rfl) (by kernel_rfl) (fun _ _ _ h => h) ⟨Or.inr ⟨by rfl, rfl⟩, fun _ => rfl⟩ ?_
        simp only [List.setIfInBounds_toArray, List.set_cons_zero, List.set_cons_succ]
        refine take_at 15 37 undef rfl rfl rfl (by kernel_rfl) (by kernel_rfl) (by kernel_rfl) (fun _ _ _ h => h) ⟨Or.inr ⟨by rfl, rfl⟩, fun _ => rfl⟩ ?_
        simp only [List.setIfInBounds_toArray, List.set_cons_zero, List.set_cons_succ]
        refine take_at 16 38 undef rfl rfl rfl (by kernel_rfl) (by kernel_rfl) (by kernel_rfl) (fun _ _ _ h => h) ⟨Or.inr ⟨by rfl, rfl⟩, fun _ => rfl⟩ ?_
        simp only [List.setIfInBounds_toArray, List.set_cons_zero, List.set_cons_succ]
        refine wpAnyIn_ready (rs := [17]) (by kernel_rfl) (by simp) (AllReadyIn.cons rfl (fun K hK => ?_) AllReadyIn.nil)
        rw [if_neg (by simp [Region.wanted, yielded])]
        refine ⟨fun f hf => trivial, ?_⟩
        refine hK _ _ ?_
        clear hK K
        refine take_at 18 40 (.bool false) rfl rfl rfl (by kernel_rfl) (by kernel_rfl) (by kernel_rfl) (fun _ _ _ h => h) ⟨Or.inl ⟨by rfl, by intro w; go_simp⟩, fun _ => rfl⟩ ?_
        simp only [List.setIfInBounds_toArray, List.set_cons_zero, List.set_cons_succ]
        refine take_at 19 41 (.bool false) rfl rfl rfl (by kernel_rfl) (by kernel_rfl) (by kernel_rfl) (fun _ _ _ h => h) ⟨Or.inl ⟨by rfl, by intro w; go_simp⟩, fun _ => rfl⟩ ?_
        simp only [List.setIfInBounds_toArray, List.set_cons_zero, List.set_cons_succ]
        refine take_at 20 42 undef rfl rfl rfl (by kernel_rfl) (by kernel_rfl) (by kernel_rfl) (fun _ _ _ h => h) ⟨Or.inr ⟨by rfl, rfl⟩, fun _ => rfl⟩ ?_
        simp only [List.setIfInBounds_toArray, List.set_cons_zero, List.set_cons_succ]
        refine take_at 21 43 undef rfl rfl rfl (by kernel_rfl) (by kernel_rfl) (by kernel_rfl) (fun _ _ _ h => h) ⟨Or.inr ⟨by rfl, rfl⟩, fun _ => rfl⟩ ?_
        simp only [List.setIfInBounds_toArray, List.set_cons_zero, List.set_cons_succ]
        refine take_at 22 44 undef rfl rfl rfl (by kernel_rfl) (by kernel_rfl) (by kernel_rfl) (fun _ _ _ h => h) ⟨Or.inr ⟨by rfl, rfl⟩, fun _ => rfl⟩ ?_
        simp only [List.setIfInBounds_toArray, List.set_cons_zero, List.set_cons_succ]
        refine take_at 23 45 undef rfl rfl rfl (by kernel_rfl) (by kernel_rfl) (by kernel_rfl) (fun _ _ _ h => h) ⟨Or.inr ⟨by rfl, rfl⟩, fun _ => rfl⟩ ?_
        simp only [List.setIfInBounds_toArray, List.set_cons_zero, List.set_cons_succ]
        refine take_at 24 46 undef rfl rfl rfl (by kernel_rfl) (by kernel_rfl) (by kernel_rfl) (fun _ _ _ h => h) ⟨Or.inr ⟨by rfl, rfl⟩, fun _ => rfl⟩ ?_
        simp only [List.setIfInBounds_toArray, List.set_cons_zero, List.set_cons_succ]
        refine take_at 25 47 undef rfl rfl rfl (by kernel_rfl) (by kernel_rfl) (by kernel_rfl) (fun _ _ _ h => h) ⟨Or.inr ⟨by rfl, rfl⟩, fun _ => rfl⟩ ?_
        simp only [List.setIfInBounds_toArray, List.set_cons_zero, List.set_cons_succ]
        refine wpAnyIn_ready (rs := [26]) (by kernel_rfl) (by simp) (AllReadyIn.cons rfl (fun K hK => ?_) AllReadyIn.nil)
        rw [if_neg (by simp [Region.wanted, yielded])]
        refine ⟨fun f hf => trivial, ?_⟩
        refine hK _ _ ?_
        clear hK K
        refine take_at 27 49 (.bool false) rfl rfl rfl (by kernel_rfl) (by kernel_rfl) (by kernel_rfl) (fun _ _ _ h => h) ⟨Or.inl ⟨by rfl, by intro w; go_simp⟩, fun _ => rfl⟩ ?_
        simp only [List.setIfInBounds_toArray, List.set_cons_zero, List.set_cons_succ]
        refine take_at 28 6 (.bool false) rfl rfl rfl (by kernel_rfl) (by kernel_rfl) (by kernel_rfl) (fun _ _ _ h => h) ⟨Or.inl ⟨by rfl, by intro w; go_simp⟩, fun _ => rfl⟩ ?_
        simp only [List.setIfInBounds_toArray, List.set_cons_zero, List.set_cons_succ]
        refine wpAnyIn_done (by kernel_rfl) ?_ _
        gi_wp2
        go_ret
        obtain ⟨q, hq, hx⟩ := HQ1.out
        exact .inr ⟨rfl, ⟨q, hq.trans (by rw [HKE.out]; exact ⟨(k, v) :: Kept ah tr, by simp⟩), hx⟩, (Still.turned (Turn.refl _ W).drew).trans HS1.out⟩

end Go.Proofs.Ytamcgoamkakpkaa.omb

/-
  A map's keys, rising, by a range over a function: rising, All (keys string, values []byte).
-/
namespace Go.Proofs.Ytamcgoamkakpkaa.omb
open Go.RowKit Go.Shelf
attribute [local go_sem] Oper.semAt_some wide_fn

theorem yield_depth {m m' : Nat} {P : Program} {l : Nat} {args : Array Value} {W : World} {R : Ending → World → Prop} (h : YieldAt Fence.wide m P l args W R) : YieldAt Fence.wide m' P l args W R := by
  obtain ⟨fn, tmps, assign, body, hy, hR⟩ := h
  exact ⟨fn, tmps, assign, body, hy, hR.1, fun c cs _ => hR.2 c cs (room_wide _)⟩
theorem calls_depth {m m' : Nat} {P : Program} {f : FuncId} {args : Array Value} {W : World} {R : Ending → World → Prop} (h : CallsIn Fence.wide m P f args W R) : CallsIn Fence.wide m' P f args W R := callsIn_wide.2 (callsIn_wide.1 h)

/-- What a range over a map has at hand: where its tree's root, and what says what is ahead, lie; the tree; what is ahead. -/
structure Src (w : World) (q1 q2 : Nat) (A : Option Addr) (fa : Nat) (caps : Array Value) (x : Tr (List UInt8) SlB) (ah : (List UInt8) → Bool) : Prop where
  root : Box w q1 53 #[.pointer A]
  fun' : Box w q2 37 #[.func (.func fa) #[] caps]
  tree : Nd w x (.pointer A)
  up : Up Op.bytesLess x.flat
  enters : ∀ args w, (callFunc fa args).run Try.prog w = .ok (.enter fa args) w
  falls : Falls ah

set_option maxRecDepth 100000 in
set_option maxHeartbeats 1000000 in
theorem rising_feeds (n : Nat) {w : World} {q1 q2 : Nat} {A : Option Addr} {fa : Nat} {caps : Array Value} {x : Tr (List UInt8) SlB} {ah : (List UInt8) → Bool} (h : Src w q1 q2 A fa caps x ah) (S : Nat → Prop) (h1 : ¬ S q1) (h2 : ¬ S q2) (hB : Base S w)
    (hA : ∀ key W, Turn S w W → Calls Try.prog fa (#[(.string ⟨key.toArray⟩)] ++ caps) W fun e W' => e = .returned (.bool (ah key)) ∧ W = W') :
    Feeds n 45 #[.pointer (some ⟨q1, 0, none⟩), .pointer (some ⟨q2, 0, none⟩)] prs S (fun pre y _ => pre ++ [y] <+: Kept ah x) (fun xs => xs = Kept ah x) (fun pre => pre <+: Kept ah x) w := fun l J Jx W hW _ _ hJ hJx hY h0 => by
  have hWS : Turn S w W := hW.none
  have hc1 := (h.root.turn hWS h1).cell 0
  have hc2 := (h.fun'.turn hWS h2).cell 0
  have HR : Hid (Rounds l fa caps ah S w J Jx (Kept ah x)) := ⟨fun pre W1 hj => hJ _ _ _ hj ((Turn.refl (fun _ => False) W1).drew.none), h.enters, hA, fun pre y W1 hj _ hp => yield_depth (hY pre y W1 hj hp)⟩
  have HE := Lib.hid (each_any l fa caps ah S w J Jx (Kept ah x) HR.out hB h.falls x (.pointer A) [] W h.tree hWS h0 h.up (by rw [List.nil_append]; exact List.prefix_refl _))
  clear h0 hJ hJx hY hA h hB HR
  refine callsIn_of_wp Try.func45 rfl trivial ?_ rfl
  simp only [Try.ntmps45, List.size_toArray, List.length_cons, List.length_nil, Nat.reduceAdd, Nat.reduceSub, Array.replicate_succ, Array.replicate_zero, List.push_toArray, List.append_toArray, List.nil_append, List.cons_append]
  gi_wp2_with fail
  refine ⟨fun h => by (cases h), (calls_depth HE.out).mono ?_⟩
  rintro e W1 (⟨rfl, hj, _, _⟩ | ⟨rfl, ⟨q, hq, hx⟩, _⟩)
  · have HJ := Lib.hid hj; clear hj
    gi_wp2
    go_end0
    exact ⟨⟨_, rfl⟩, .inl ⟨_, rfl, by have := HJ.out; rwa [List.nil_append] at this⟩⟩
  · have HX := Lib.hid hx; have HQ := Lib.hid hq; clear hx hq
    gi_wp2
    go_end0
    exact ⟨⟨_, rfl⟩, .inr ⟨q, by have := HQ.out; rwa [List.nil_append] at this, HX.out⟩⟩

/-- The range over a map that rising makes. -/
def RisV (q1 q2 : Nat) : Value := .func (.func 45) #[] #[.pointer (some ⟨q1, 0, none⟩), .pointer (some ⟨q2, 0, none⟩)]
structure Ris (w w' : World) (q1 q2 : Nat) (fa : Nat) (caps : Array Value) (L : List ((List UInt8) × SlB)) : Prop where
  out : ∃ (A : Option Addr) (x : Tr (List UInt8) SlB), Box w' q1 53 #[.pointer A] ∧ Box w' q2 37 #[.func (.func fa) #[] caps] ∧ Nd w' x (.pointer A) ∧ x.flat = L
  up : Up Op.bytesLess L
  new1 : w.heap.size ≤ q1
  new2 : w.heap.size ≤ q2
  turn : Turn (fun _ => False) w w'

set_option maxRecDepth 100000 in
theorem rising_any (fa : Nat) (caps : Array Value) {w : World} {g : Nat} {tl : Value} {L : List ((List UInt8) × SlB)} (h : MP w g tl L) :
    Calls Try.prog 36 #[.pointer (some ⟨g, 0, none⟩), .func (.func fa) #[] caps] w fun e w' => ∃ q1 q2, e = .returned (RisV q1 q2) ∧ Ris w w' q1 q2 fa caps L := by
  have HU := Lib.hid h.up
  obtain ⟨x, A, hb, hx, hf⟩ := h.out
  have hne1 : w.heap.size ≠ g := by have := hb.lt; omega
  have hne2 : w.heap.size + 1 ≠ g := by have := hb.lt; omega
  have hc := ((hb.alloc (.cells #[.func (.func fa) #[] caps] 37)).alloc (.cells #[.pointer none] 53)).cell 0
  have HX := Lib.hid hx; have HF := Lib.hid hf
  clear h hb hx hf
  go_enter Try.func36, Try.ntmps36
  go_wp2
  go_ret
  exact ⟨w.heap.size + 1, w.heap.size, rfl, ⟨A, x, by have := Box.new (w.alloc (.cells #[.func (.func fa) #[] caps] 37)) 53 #[.pointer (A)]; rw [World.size_alloc] at this; exact this, (Box.new w 37 #[.func (.func fa) #[] caps]).alloc _, HX.out.later (((Turn.refl _ w).alloc _).alloc _), HF.out⟩, HU.out, Nat.le_succ _, Nat.le_refl _, ((Turn.refl _ w).alloc _).alloc _⟩

set_option maxRecDepth 100000 in
theorem rising_nil (fa : Nat) (caps : Array Value) (w : World) :
    Calls Try.prog 36 #[.pointer none, .func (.func fa) #[] caps] w fun e w' => ∃ q1 q2, e = .returned (RisV q1 q2) ∧ Ris w w' q1 q2 fa caps [] := by
  have HU : Hid (Up Op.bytesLess ([] : List ((List UInt8) × SlB))) := up_nil
  go_enter Try.func36, Try.ntmps36
  go_wp2
  go_ret
  exact ⟨w.heap.size + 1, w.heap.size, rfl, ⟨none, .nil, by have := Box.new (w.alloc (.cells #[.func (.func fa) #[] caps] 37)) 53 #[.pointer (none)]; rw [World.size_alloc] at this; exact this, (Box.new w 37 #[.func (.func fa) #[] caps]).alloc _, rfl, rfl⟩, HU.out, Nat.le_succ _, Nat.le_refl _, ((Turn.refl _ w).alloc _).alloc _⟩

set_option maxRecDepth 100000 in
theorem none_any (key : (List UInt8)) (w : World) : Calls Try.prog 37 #[(.string ⟨key.toArray⟩)] w fun e w' => e = .returned (.bool false) ∧ w = w' := by
  go_enter Try.func37, Try.ntmps37
  go_wp2
  go_ret
  exact ⟨rfl, rfl⟩

/-- What All makes, of a map whose list is L. -/
def AllPost (w : World) (L : List ((List UInt8) × SlB)) (e : Ending) (w' : World) : Prop := ∃ q1 q2, e = .returned (RisV q1 q2) ∧ Ris w w' q1 q2 37 #[] L

set_option maxRecDepth 100000 in
theorem all_any {w : World} {g : Nat} {tl : Value} {L : List ((List UInt8) × SlB)} (h : MP w g tl L) :
    Calls Try.prog 27 #[.pointer (some ⟨g, 0, none⟩)] w fun e w' => AllPost w L e w' := by
  have HR := Lib.hid (rising_any 37 #[] h)
  clear h
  go_enter Try.func27, Try.ntmps27
  go_wp2_with (go_at_call 36; refine HR.out.mono ?_; rintro e w' ⟨q1, q2, rfl, hr⟩; have HX := Lib.hid hr; clear hr; unfold RisV)
  go_ret
  exact ⟨q1, q2, rfl, HX.out⟩
set_option maxRecDepth 100000 in
theorem all_nil (w : World) : Calls Try.prog 27 #[.pointer none] w fun e w' => AllPost w [] e w' := by
  have HR := Lib.hid (rising_nil 37 #[] w)
  go_enter Try.func27, Try.ntmps27
  go_wp2_with (go_at_call 36; refine HR.out.mono ?_; rintro e w' ⟨q1, q2, rfl, hr⟩; have HX := Lib.hid hr; clear hr; unfold RisV)
  go_ret
  exact ⟨q1, q2, rfl, HX.out⟩

theorem kept_none (x : Tr (List UInt8) SlB) : Kept (fun _ => false) x = x.flat := by unfold Kept; simp

theorem all_feeds (n : Nat) {w w' : World} {q1 q2 : Nat} {L : List ((List UInt8) × SlB)} (h : Ris w w' q1 q2 37 #[] L) (S : Nat → Prop) (h1 : ¬ S q1) (h2 : ¬ S q2) (hB : Base S w') :
    Feeds n 45 #[.pointer (some ⟨q1, 0, none⟩), .pointer (some ⟨q2, 0, none⟩)] prs S (fun pre y _ => pre ++ [y] <+: L) (fun xs => xs = L) (fun pre => pre <+: L) w' := by
  obtain ⟨A, x, hb1, hb2, hx, hf⟩ := h.out
  have hs : Src w' q1 q2 A 37 #[] x (fun _ => false) := ⟨hb1, hb2, hx, by rw [hf]; exact h.up, enters_of Try.func37 (by kernel_rfl) rfl, fun _ _ _ h => h⟩
  have := rising_feeds n hs S h1 h2 hB (fun key W _ => none_any key W)
  rw [kept_none, hf] at this
  exact this

end Go.Proofs.Ytamcgoamkakpkaa.omb

/-
  A region that draws its order, walked by hand (drawn_region's words), in a round of a range over a function. No type is named here.
-/
namespace Go.Proofs.Ytamcgoamkakpkaa
open Go.RowKit

/-- Nothing but going on is owed. -/
def goesOn (Q : Exit → Act → World → Prop) : Exit → Act → World → Prop
  | .normal, a, w => Q .normal a w
  | _, _, _ => False
theorem goes_on {Q : Exit → Act → World → Prop} {a : Act} {w : World} (h : Q .normal a w) : goesOn Q .normal a w := h

section
variable {P : Program} {l0 n : Nat} {ops : Array Oper} {md : Region.Mode} {Q : Exit → Act → World → Prop}
theorem op_in {o : Oper} {a : Act} {w : World} {K K' : Act → World → Prop} (hd : noDefer o.op = true) (hK : ∀ a w, K a w → K' a w) (h : o.wp P a w K (goesOn Q) ∨ (o.asks P a w ∧ LetsOut (goesOn Q))) :
    o.wpIn (Fence.wide.inRound l0) n P a w K' Q := by
  rcases h with h | ⟨_, a', w', h⟩
  · unfold Oper.wp at h
    unfold Oper.wpIn
    refine ⟨fun f _ => trivial, ?_⟩
    rw [Oper.semAt_eq _ _ _ (noDefer_ne hd)]
    generalize (execOp a.eval o).run P w = r at *
    rcases r with ⟨x, w'⟩ | ⟨x, w'⟩
    · cases x <;> simp only [Oper.upon] at h <;> simp only [Oper.uponIn]
      case value => exact hK _ _ h
      case skip => exact hK _ _ h
      case defer => exact hK _ _ h
      case enter f args =>
        refine ⟨fun h0 => (by cases h0), CallsIn.inRound l0 (callsIn_wide.2 (h.mono fun e w'' he => ?_))⟩
        cases e with
        | returned v => exact hK _ _ he
        | panicked c => exact he.elim
        | outgrown =>
          obtain ⟨a', w', h⟩ := he
          exact h.elim
      case row row args =>
        refine ⟨fun h0 => (by cases h0), fun c cs _ => ?_⟩
        obtain ⟨v, w'', hv, hs⟩ := h c cs
        exact ⟨v, w'', hK _ _ hv, stepsIn_wide.2 hs⟩
    · cases x <;> simp only [Oper.upon] at h
      exact h.elim
  · exact h.elim
theorem any_in (hnd : ∀ o ∈ ops.toList, noDefer o.op = true) : ∀ (fuel : Nat) (listed : Array Bool) (a : Act) (w : World), wpAny P md ops (goesOn Q) fuel listed a w → wpAnyIn (Fence.wide.inRound l0) n P md ops Q fuel listed a w
  | 0, _, _, _, h => ⟨h.1, h.2⟩
  | fuel + 1, listed, a, w, h => ⟨fun h0 => h.1 h0, fun i hi => by
    have h1 := h.2 i hi
    unfold wpOp at h1
    unfold wpOpIn
    cases ho : ops[i]? with
    | none =>
      simp only [ho] at h1
      exact any_in hnd fuel _ a w h1
    | some o =>
      simp only [ho] at h1
      have hm : noDefer o.op = true := hnd o (Array.mem_toList_iff.2 (Array.mem_of_getElem? ho))
      by_cases hw : Region.wanted o (yielded ops a.tmps)
      · simp only [hw, if_true] at h1 ⊢
        exact op_in hm (fun a' w' => any_in hnd fuel _ a' w') h1
      · simp only [hw] at h1 ⊢
        exact ⟨fun f _ => trivial, any_in hnd fuel _ _ _ h1⟩⟩
theorem drawn_region_in (S : World → Prop) (zs : List Nat) {id : Nat} {ts : Array Value} {ds : List Deferred} {w : World} (hnd : (ops.toList.all fun o => noDefer o.op) = true) (hm : P.follows .mixedOrders = true)
    (h : Drawn P ops (goesOn Q) S zs ops.size (Array.replicate ops.size false) ts ds w.drew) : (Code.region id ops true).wpIn (Fence.wide.inRound l0) n P Q { tmps := ts, defers := ds } w :=
  wpIn_region_any hm (any_in (fun o ho => by rw [List.all_eq_true] at hnd; exact hnd o ho) _ _ _ _ (wpAny_ofG _ _ _ _ (h Shutd.start)))
end

end Go.Proofs.Ytamcgoamkakpkaa

/-
  append onto a row of one's own that has room: the row stays where it is. No type is named here.
-/
namespace Go.Proofs.Ytamcgoamkakpkaa
open Go.RowKit

theorem run_app_room {P : Program} (w : World) (t tx ty e : TypeId) (i : TypeInfo) (ht : P.underlying t = some (.slice e)) (hi : P.info? e = some i)
    (g n cap : Nat) (xs : List Value) (hown : w.ownsRow 0 e i.size (.slice (some ⟨g, 0, none⟩) n cap) n xs) (x : Value) (m : Nat) (news : List Value) (hs : Src P i.size tx x m news w) (hroom : n + m ≤ cap) :
    ∃ w', (Builtin.append_ #[t, tx] ty #[.slice (some ⟨g, 0, none⟩) n cap, x]).run P w = .ok (.slice (some ⟨g, 0, none⟩) (n + m) cap) w' ∧ w'.ownsRow 0 e i.size (.slice (some ⟨g, 0, none⟩) (n + m) cap) (n + m) (xs ++ news) ∧ w.grownBy w' (some g) := by
  have hlen : (xs ++ news).length = (n + m) * i.size := by rw [List.length_append, hown.1, hs.newsLen, Nat.add_mul]
  rcases hown.2 with ⟨e1, _⟩ | ⟨g', cap', cur, e1, hb0, hg, hnc, hcm, hcs, htake⟩
  · cases e1
  · cases e1
    have hfit : n * i.size + news.length ≤ cur.size := by rw [hs.newsLen, hcs, ← Nat.add_mul]; exact Nat.mul_le_mul_right _ hroom
    have hst := run_storeCells_at P g (n * i.size) e news 0 cur w hg (by simpa using hfit) hs.one
    simp only [Nat.add_zero] at hst
    have hr : (Builtin.append_ #[t, tx] ty #[.slice (some ⟨g, 0, none⟩) n cap, x]).run P w =
        .ok (.slice (some ⟨g, 0, none⟩) (n + m) cap) (w.setRow g (cur.toList.take (n * i.size) ++ news ++ cur.toList.drop (n * i.size + news.length)).toArray) := by
      rcases hs.kind with ⟨e', hk⟩ | hk <;> simp [Builtin.append_, run_underlying ht, run_underlying hk, sizeOf, typeInfo, hi, hs.len, hs.cells, hroom, Addr.add_lit, hst]
    refine ⟨_, hr, ⟨hlen, .inr ⟨g, cap, _, rfl, hb0, setRow_heap w g cur _ e _ hg, hroom, hcm, ?_, ?_⟩⟩, ⟨rfl, rfl, rfl, by simp, fun k _ hk => setRow_other w g k _ (fun e => hk (by simp [e]))⟩⟩
    · simp only [List.size_toArray, List.length_append, List.length_take, List.length_drop, Array.length_toList]
      omega
    · rw [htake, ← hlen]
      exact List.take_left
theorem app_room {P : Program} {T : Type} {E : El T} {tS e : TypeId} {z : Value} {by' : Nat} (ht : P.underlying tS = some (.slice e)) (hi0 : (P.info? e).map (fun i => (i.zero, i.size, i.bytes)) = some (some z, E.sz, by'))
    (w : World) (tx ty : TypeId) (g n c : Nat) (l : List T) (hown : OwE E e w (.slice (some ⟨g, 0, none⟩) n c) l) (y : Value) (m : List T) (hy : Src P E.sz tx y m.length (E.flat m) w) (hroom : l.length + m.length ≤ c) :
    ∃ w', (Builtin.append_ #[tS, tx] ty #[.slice (some ⟨g, 0, none⟩) n c, y]).run P w = .ok (.slice (some ⟨g, 0, none⟩) (l.length + m.length) c) w' ∧ OwE E e w' (.slice (some ⟨g, 0, none⟩) (l.length + m.length) c) (l ++ m) ∧ Turn (fun k => k = g) w w' := by
  obtain ⟨i, hi, hz0, h1, h2⟩ := info_parts hi0
  obtain ⟨_, _, hsh⟩ := hown.shape
  obtain rfl : n = l.length := by injection hsh
  unfold OwE at hown
  rw [← h1] at hown hy
  obtain ⟨w', hr, g1, g2⟩ := run_app_room (P := P) w tS tx ty e i ht hi g _ c _ hown y m.length _ hy hroom
  refine ⟨w', hr, ?_, (Turn.refl _ w).grown g2 (fun k _ e => by cases e; rfl)⟩
  unfold OwE
  rw [List.length_append, E.flat_append, ← h1]
  exact g1

/-- append where there is room, in a round of a range over a function. -/
theorem wpListIn_room {F : Fence} {k : Nat} {P : Program} {T : Type} {E : El T} {tS e : TypeId} {z : Value} {by' : Nat} (ht : P.underlying tS = some (.slice e)) (hi0 : (P.info? e).map (fun i => (i.zero, i.size, i.bytes)) = some (some z, E.sz, by'))
    (w : World) {ops : Array Oper} {rest : List Oper} {o : Oper} {a : Act} {Q : Exit → Act → World → Prop} (hgd : o.guard = none) (s x : Operand)
    (ho : o.op = .call { callee := .builtin .append, args := #[s, x], argTypes := #[tS, tS] }) (g n c : Nat) (l : List T) (hs : a.eval s = .slice (some ⟨g, 0, none⟩) n c) (hown : OwE E e w (.slice (some ⟨g, 0, none⟩) n c) l)
    (y : Value) (hx : a.eval x = y) (m : List T) (hy : Src P E.sz tS y m.length (E.flat m) w) (hroom : l.length + m.length ≤ c)
    (h : ∀ w', OwE E e w' (.slice (some ⟨g, 0, none⟩) (l.length + m.length) c) (l ++ m) → Turn (fun k => k = g) w w' → wpListIn F k P ops Q rest (a.put o.dst (.slice (some ⟨g, 0, none⟩) (l.length + m.length) c)) w') :
    wpListIn F k P ops Q (o :: rest) a w := by
  refine wpListIn_plain hgd fun K hK' => ?_
  obtain ⟨w', hrun, r1, r2⟩ := app_room (P := P) ht hi0 w tS o.type g n c l hown y m hy hroom
  unfold Oper.wpIn
  refine ⟨?_, ?_⟩
  · simp [Oper.about, ho, resolve, Target.leads, Sem.run_pure]
  · rw [Oper.semAt_plain F _ _ (by rw [ho]; intro c hc'; cases hc')]
    simp [execOp, ho, resolve, invoke, builtin, hs, hx, hrun, Result.andThen]
    exact hK' _ _ (h w' r1 r2)
/-- A row of one's own holds cells: no record of a loop is in it. -/
theorem holds_own {T : Type} {E : El T} {e : TypeId} {β : Type} (D : Nat) (v : β → Value) (f : β → List T) : Holds D (fun s W => OwE E e W (v s) (f s)) := fun s A B hs ht => by
  refine hs.turn ht fun k hk => ?_
  rintro ⟨_, o, ho, hc⟩
  rcases hs.form with ⟨e1, _⟩ | ⟨g, cap, cur, e1, hb, _⟩
  · rw [e1] at hk; cases hk
  · rw [e1] at hk
    cases hk
    rw [show A.heap[g]? = _ from hb] at ho
    cases ho
    cases hc
/-- Where a row of one's own turns alone, what holds no cells stays. -/
theorem own_still {w w' : World} {g B : Nat} (ht : Turn (fun k => k = g) w w') (hw : ∀ o, w.heap[g]? = some o → o.isCells = true) : Still B w w' := ⟨ht.size, fun k o _ hk ho => by
  by_cases e : k = g
  · subst e
    rw [hw o hk] at ho
    cases ho
  · exact (ht.block k (Array.getElem?_eq_some_iff.1 hk).1 e).trans hk⟩
theorem own_cells {T : Type} {E : El T} {e : TypeId} {w : World} {v : Value} {l : List T} {g : Nat} (h : OwE E e w v l) (hv : v.ownBlock = some g) : ∀ o, w.heap[g]? = some o → o.isCells = true := fun o ho => by
  rcases h.form with ⟨e1, _⟩ | ⟨g', cap, cur, e1, hb, _⟩
  · rw [e1] at hv; cases hv
  · rw [e1] at hv
    cases hv
    rw [show w.heap[g']? = _ from hb] at ho
    cases ho
    rfl
/-- What a range has told: as far as a place of the list, one by one. -/
theorem pre_at10 {A : Type} {L pre : List A} {y : A} (hp : pre ++ [y] <+: L) : L[pre.length]? = some y ∧ pre.length < L.length := by
  obtain ⟨r, hr⟩ := hp
  have h : L[pre.length]? = some y := by
    rw [← hr, List.append_assoc, List.getElem?_append_right (Nat.le_refl _), Nat.sub_self]; rfl
  exact ⟨h, (List.getElem?_eq_some_iff.1 h).1⟩
theorem box_ne10 {w : World} {i g : Nat} {t t' : TypeId} {cs cs' : Array Value} (h : Box w i t cs) (h' : Box w g t' cs') (ht : t ≠ t') : i ≠ g := by
  rintro rfl
  have e := (show w.heap[i]? = _ from h).symm.trans h'
  injection e with e
  injection e with _ e3
  exact ht e3
theorem box_not_own {T : Type} {E : El T} {e t : TypeId} {w : World} {v : Value} {l : List T} {i g : Nat} {cs : Array Value} (h : Box w i t cs) (h' : OwE E e w v l) (hv : v.ownBlock = some g) (ht : e ≠ t) : i ≠ g := by
  rintro rfl
  exact h'.not_box h ht hv

end Go.Proofs.Ytamcgoamkakpkaa

/-
  Stage 10: the document's Of.
-/
namespace Go.Proofs.Ytamcgoamkakpkaa
open Go.RowKit

set_option maxRecDepth 100000

/-- All texts of a list: each once, rising. -/
def ofT (l : List (List UInt8)) : List (List UInt8) := setG Op.bytesLess l
/-- Behind a list laid in new memory. -/
def Texts10 (w : World) (l : List (List UInt8)) (e : Ending) (w' : World) : Prop := ∃ v, e = .returned v ∧ RdE ET10 w' v l ∧ Turn (fun _ => False) w w'

/-- The same, in a row of texts. -/
def Typ10 (w : World) (v : Value) : Prop := ∀ k, v.ownBlock = some k → ∃ cs, Box w k 9 cs
theorem Typ10.later {w w' : World} {v : Value} (h : Typ10 w v) (ht : Turn (fun _ => False) w w') : Typ10 w' v := fun k hk => (h k hk).imp fun _ hc => hc.turn ht (fun f => f)
theorem Typ10.own {w : World} {v : Value} {l : List (List UInt8)} (h : OwE ET10 9 w v l) : Typ10 w v := fun k hk => by
  rcases h.form with ⟨e1, _⟩ | ⟨g', cap, cur, e1, hb', _⟩
  · rw [e1] at hk; cases hk
  · rw [e1] at hk
    simp only [Value.ownBlock, Option.some.injEq] at hk
    subst hk
    exact ⟨_, hb'⟩
def TextsT10 (w : World) (l : List (List UInt8)) (e : Ending) (w' : World) : Prop := ∃ v, e = .returned v ∧ RdE ET10 w' v l ∧ Turn (fun _ => False) w w' ∧ Typ10 w' v
end Go.Proofs.Ytamcgoamkakpkaa

/-
  Stage 10: numbers in memory; numbers of things, things of numbers, plain.
-/
namespace Go.Proofs.Ytamcgoamkakpkaa
open Go.RowKit Go.ChangeShapes Go.WideShapes Go.Deep

set_option maxRecDepth 100000

/-- A number's cell. -/
def EC10 : El Int where
  sz := 1
  enc p := [.int .i64 p]
  len _ := rfl
  one p u hu := by rw [List.mem_singleton.1 hu]; rfl
theorem num_at10 {w : World} {A : Option Addr} {n c : Nat} {L : List Int} (h : RdE EC10 w (.slice A n c) L) {j : Nat} {x : Int} (hj : L[j]? = some x) :
    ∃ ad, A = some ad ∧ ∀ W, Turn (fun _ => False) w W → W.cell? (ad.add j) = some (.int .i64 x) := by
  obtain ⟨ad, hA, _⟩ := h.cells hj
  refine ⟨ad, hA, fun W ht => ?_⟩
  obtain ⟨ad', hA', hc⟩ := (h.later ht).cells hj
  rw [hA] at hA'
  cases hA'
  have h1 := hc 0 _ rfl
  rwa [show j * EC10.sz + 0 = j from by simp [EC10]] at h1
theorem open_numa10 {H : Type} {enc : TypeId × Value → H} {W : World} (n : Nat) (cs : List Value) (y : DataW H × List MemPlace) (hl : cs.length = EC10.sz) (h : DataW.trod enc Try.prog W 0 (fun _ => true) true n 2 cs = some y) :
    ∃ x, cs = EC10.enc x ∧ (Lit.int .i64 x).wf = true := by
  match cs, hl with
  | [c0], _ =>
    obtain ⟨K, k0, _, kw⟩ := DataW.trod_int Try.underlying2 h
    simp only [List.cons.injEq, and_true] at k0
    subst k0
    exact ⟨K, rfl, kw⟩
theorem open_numb10 {H : Type} {enc : TypeId × Value → H} {W : World} (n : Nat) (cs : List Value) (y : DataW H × List MemPlace) (hl : cs.length = EC10.sz) (h : DataW.trod enc Try.prog W 0 (fun _ => true) true n 3 cs = some y) :
    ∃ x, cs = EC10.enc x ∧ (Lit.int .i64 x).wf = true := by
  match cs, hl with
  | [c0], _ =>
    obtain ⟨K, k0, _, kw⟩ := DataW.trod_int Try.underlying3 h
    simp only [List.cons.injEq, and_true] at k0
    subst k0
    exact ⟨K, rfl, kw⟩
section
variable {A : Type} [DecidableEq A]
/-- The number of a thing: none, or that. -/
def codeG (x : A) (L : List A) : Option Nat := if idxG x L < L.length then some (idxG x L) else none
/-- All numbers of things, where each has one. -/
def allIn (b L : List A) : Bool := b.all fun x => decide (idxG x L < L.length)
def codesG (b L : List A) : List Int := if allIn b L then b.map fun x => (idxG x L : Int) else []
/-- The thing with a number. -/
def atG (n : Int) (L : List A) : Option A := if 0 ≤ n then L[n.toNat]? else none
def allAt (cs : List Int) (L : List A) : Bool := cs.all fun n => (atG n L).isSome
def thingsG (cs : List Int) (L : List A) : List A := if allAt cs L then cs.filterMap fun n => atG n L else []
theorem allIn_iff {b L : List A} : allIn b L = true ↔ ∀ x ∈ b, x ∈ L := by
  unfold allIn
  rw [List.all_eq_true]
  exact forall_congr' fun x => forall_congr' fun _ => by rw [decide_eq_true_iff, idxG_mem]
theorem at_code {x : A} {L : List A} (h : x ∈ L) : atG (idxG x L : Int) L = some x := by
  unfold atG
  rw [if_pos (Int.natCast_nonneg _), Int.toNat_natCast]
  exact idxG_at rfl (idxG_mem.2 h)
theorem there_back {b L : List A} (h : ∀ x ∈ b, x ∈ L) : allAt (codesG b L) L = true ∧ thingsG (codesG b L) L = b := by
  have h1 : codesG b L = b.map fun x => (idxG x L : Int) := by unfold codesG; rw [if_pos (allIn_iff.2 h)]
  have h2 : allAt (codesG b L) L = true := by
    rw [h1]
    unfold allAt
    rw [List.all_eq_true]
    intro n hn
    obtain ⟨x, hx, rfl⟩ := List.mem_map.1 hn
    rw [at_code (h x hx)]
    rfl
  refine ⟨h2, ?_⟩
  unfold thingsG
  rw [if_pos h2, h1]
  clear h1 h2
  induction b with
  | nil => rfl
  | cons x b ih =>
    rw [List.map_cons, List.filterMap_cons, at_code (h x (List.mem_cons_self ..))]
    dsimp only
    rw [ih fun y hy => h y (List.mem_cons_of_mem _ hy)]
end
/-- Numbers are in the order of their things. -/
theorem idx_order {A : Type} [DecidableEq A] {lt : A → A → Bool} (hr : Rises lt) {L : List A} (hL : L.Pairwise fun x y => lt x y = true) {x y : A} (hx : x ∈ L) (hy : y ∈ L) : idxG x L < idxG y L ↔ lt x y = true := by
  have ix := idxG_mem.2 hx
  have iy := idxG_mem.2 hy
  have ex := idxG_at (x := x) (l := L) rfl ix
  have ey := idxG_at (x := y) (l := L) rfl iy
  rw [List.getElem?_eq_getElem ix] at ex
  rw [List.getElem?_eq_getElem iy] at ey
  have ex2 := Option.some.inj ex
  have ey2 := Option.some.inj ey
  have hp := List.pairwise_iff_getElem.1 hL
  constructor
  · intro h
    have := hp _ _ ix iy h
    rwa [ex2, ey2] at this
  · intro h
    rcases Nat.lt_trichotomy (idxG x L) (idxG y L) with h1 | h1 | h1
    · exact h1
    · have e : x = y := by
        rw [← ex2, ← ey2]
        congr 1
      rw [e, hr.irr] at h
      cases h
    · have := hp _ _ iy ix h1
      rw [ex2, ey2] at this
      have h2 := hr.tr _ _ _ h this
      rw [hr.irr] at h2
      cases h2

end Go.Proofs.Ytamcgoamkakpkaa

/-
  A struct stored whole into a box, in a region that draws. No type is named here.
-/
namespace Go.Proofs.Ytamcgoamkakpkaa
open Go.RowKit

theorem put_box {P : Program} {ops : Array Oper} {ty rt : TypeId} {pos : String} {af : Array Edge} {px vx : Operand} {a : Act} {w : World} {K : Act → World → Prop} {Q : Exit → Act → World → Prop} {F : Prop}
    (b o : Nat) (cs : Array Value) (ht : w.there b o cs.size) (hp : a.eval px = .pointer (some ⟨b, o, none⟩)) (hv : a.eval vx = .agg cs) (hi : (P.info? ty).map (·.size) = some cs.size) (h1 : cs.all (·.oneCell') = true)
    (h : K a (w.setCells b o cs.toList)) :
    if Region.wanted { dst := none, op := .store ty px vx, type := rt, pos := pos, after := af, guard := none } (yielded ops a.tmps) = true then Oper.wp P { dst := none, op := .store ty px vx, type := rt, pos := pos, after := af, guard := none } a w K Q else F := by
  rw [if_pos (by rfl)]
  exact wp_store_mid ty px vx rfl b o cs hp hv ht hi h1 h
/-- A box, whole: there to be stored into. -/
theorem Box.there {w : World} {g : Nat} {t : TypeId} {cs : Array Value} (h : Box w g t cs) {n : Nat} (hn : n ≤ cs.size) : w.there g 0 n := fun i hi => by
  refine ⟨?_, h.free _⟩
  rw [h.cell, Nat.zero_add, Array.getElem?_eq_getElem (by omega)]
  rfl
/-- A box stored whole. -/
theorem Box.all {w : World} {g : Nat} {t : TypeId} {cs : Array Value} (h : Box w g t cs) (ds : Array Value) (hd : ds.size = cs.size) : Box (w.setCells g 0 ds.toList) g t ds := by
  have h1 := h.setCells ds.toList 0 cs w (by rw [Array.length_toList]; omega)
  have e : (cs.toList.take 0 ++ ds.toList ++ cs.toList.drop (0 + ds.toList.length)).toArray = ds := by
    rw [List.take_zero, List.nil_append, Nat.zero_add, List.drop_of_length_le (by rw [Array.length_toList, Array.length_toList]; omega), List.append_nil, Array.toArray_toList]
  rwa [e] at h1

section
variable {T : Type} {E : El T} {e : TypeId} {w : World} {ad : Addr} {n c : Nat} {L : List T}
/-- One element stored into a row, in a region that draws nothing. -/
theorem wpList_put {P : Program} {ops : Array Oper} {rest : List Oper} {op : Oper} {a : Act} {Q : Exit → Act → World → Prop} (hgd : op.guard = none) (ty : TypeId) (x y : Operand) (ho : op.op = .store ty x y)
    (hown : OwE E e w (.slice (some ad) n c) L) (j : Nat) (t : T) (hj : j < L.length) (hx : a.eval x = .pointer (some (ad.add (j * E.sz)))) (hy : a.eval y = .agg (E.enc t).toArray) (hi : (P.info? ty).map (·.size) = some E.sz)
    (h : ∀ w', OwE E e w' (.slice (some ad) n c) (L.set j t) → Turn (fun k => k = ad.block) w w' → wpList P ops Q rest (a.put op.dst undef) w') : wpList P ops Q (op :: rest) a w := by
  obtain ⟨cur, ha, -⟩ := hown.home
  have hadd : ad.add (j * E.sz) = ⟨ad.block, ad.off + j * E.sz, none⟩ := by
    obtain ⟨b, o, s⟩ := ad
    simp only [Addr.mk.injEq, true_and] at ha
    obtain ⟨rfl, rfl⟩ := ha
    rw [own_add, Nat.zero_add]
  refine wpList_store_mid hgd ty x y ho ad.block (ad.off + j * E.sz) (E.enc t).toArray (by rw [hx, hadd]) hy (by rw [List.size_toArray, E.len]; exact hown.there hj) (by rw [List.size_toArray, E.len]; exact hi) (all_oneCell_toArray (E.one t)) ?_
  exact h _ (hown.put hj t) (turn_setCells (S := fun k => k = ad.block) rfl _ _ _)
/-- The cells that make lays: so many zeros. -/
theorem made_flat (t : T) (h0 : 0 < E.sz) (N : Nat) : (madeCells (E.enc t).toArray (N * E.sz)).toList = E.flat (List.replicate N t) := by
  refine List.ext_getElem? fun j => ?_
  have hfl : (E.flat (List.replicate N t)).length = N * E.sz := by rw [E.flat_len, List.length_replicate]
  by_cases hj : j < N * E.sz
  · have hm : j % E.sz < E.sz := Nat.mod_lt _ h0
    have hd : j / E.sz < N := Nat.div_lt_of_lt_mul (by rw [Nat.mul_comm]; exact hj)
    have e := E.flat_at (l := List.replicate N t) (j := j / E.sz) (t := t) (by rw [List.getElem?_replicate, if_pos hd]) hm
    rw [Nat.mul_comm, Nat.div_add_mod] at e
    rw [e]
    have hmz : j % E.sz < (E.enc t).length := by rw [E.len]; exact hm
    simp [madeCells, hj, E.len]
    rw [List.getElem?_eq_getElem hmz]
    rfl
  · rw [List.getElem?_eq_none (by rw [Array.length_toList, size_madeCells]; omega), List.getElem?_eq_none (by omega)]
end

end Go.Proofs.Ytamcgoamkakpkaa

/-
  Stage 10: what Codes and Things answer; rows of numbers and of things that a call makes.
-/
namespace Go.Proofs.Ytamcgoamkakpkaa
open Go.RowKit

/-- Behind Codes, Things. -/
def Codes10 {A : Type} [DecidableEq A] (w : World) (b L : List A) (e : Ending) (w' : World) : Prop := ∃ u, e = .returned (.tuple #[u, .bool (allIn b L)]) ∧ RdE EC10 w' u (codesG b L) ∧ Turn (fun _ => False) w w'
def Things10 {A : Type} [DecidableEq A] (E : El A) (w : World) (cs : List Int) (L : List A) (e : Ending) (w' : World) : Prop := ∃ u, e = .returned (.tuple #[u, .bool (allAt cs L)]) ∧ RdE E w' u (thingsG cs L) ∧ Turn (fun _ => False) w w'

theorem code_info10 : (Try.prog.info? 3).map (fun i => (i.zero, i.size, i.bytes)) = some (some (.int .i64 0), EC10.sz, 8) := by kernel_rfl
theorem num_info10 : (Try.prog.info? 2).map (fun i => (i.zero, i.size, i.bytes)) = some (some (.int .i64 0), EC10.sz, 8) := by kernel_rfl
theorem num_zero10 : (Value.cells (.int .i64 0)).size = EC10.sz := rfl

/-- A row that make lays, of no elements yet. -/
theorem own_made10 {T : Type} (E : El T) {tS e : TypeId} {z : Value} {by' : Nat} (ht : Try.prog.underlying tS = some (.slice e)) (hi0 : (Try.prog.info? e).map (fun i => (i.zero, i.size, i.bytes)) = some (some z, E.sz, by')) (hs : E.sz = 1) (hb : by' ≤ 16)
    (N : Nat) (hN : N ≤ 1000000) (w : World) : (Instr.makeSlice tS (.int .i64 0) (.int .i64 (N : Int))).run Try.prog w = .ok (.slice (some ⟨w.heap.size, 0, none⟩) 0 N) (w.alloc (.cells (madeCells z.cells N) e)) ∧ OwE E e (w.alloc (.cells (madeCells z.cells N) e)) (.slice (some ⟨w.heap.size, 0, none⟩) 0 N) [] := by
  obtain ⟨i, hi, hz0, h1, h2⟩ := info_parts hi0
  have hNb : N * by' ≤ 1000000 * 16 := Nat.mul_le_mul hN hb
  have h := run_make (P := Try.prog) w tS e i _ ht hi hz0 .i64 .i64 0 (N : Int) (Int.le_refl _) (by omega) (by rw [h2]; first | (rw [← Int.natCast_mul, Nat.mul_comm]; omega) | (rw [← Int.natCast_mul]; omega) | (rw [Nat.mul_comm]; omega) | fail) (by omega)
  rw [h1, show ((N : Int)).toNat = N from Int.toNat_natCast N, hs, Nat.mul_one] at h
  exact ⟨h, OwE.of_box (E := E) (L := []) (c := N) (Box.new w _ _) (Nat.zero_le _) (by simp only [maxLen]; omega) (by rw [size_madeCells, hs, Nat.mul_one]) (by simp [El.flat])⟩
theorem made_texts10 (N : Nat) (hN : N ≤ 1000000) (w : World) : (Instr.makeSlice 42 (.int .i64 0) (.int .i64 (N : Int))).run Try.prog w = .ok (.slice (some ⟨w.heap.size, 0, none⟩) 0 N) (w.alloc (.cells (madeCells (Value.cells (.string ⟨#[]⟩)) N) 9)) :=
  (own_made10 ET10 Try.underlying42 str_info10 rfl (by decide) N hN w).1
theorem own_texts10 (N : Nat) (hN : N ≤ 1000000) (w : World) : OwE ET10 9 (w.alloc (.cells (madeCells (Value.cells (.string ⟨#[]⟩)) N) 9)) (.slice (some ⟨w.heap.size, 0, none⟩) 0 N) [] :=
  (own_made10 ET10 Try.underlying42 str_info10 rfl (by decide) N hN w).2

theorem wpList_texts10 (w : World) {ops : Array Oper} {rest : List Oper} {o : Oper} {a : Act} {Q : Exit → Act → World → Prop} (hgd : o.guard = none) (s x : Operand)
    (ho : o.op = .call { callee := .builtin .append, args := #[s, x], argTypes := #[42, 42] }) (v : Value) (l : List (List UInt8)) (hs : a.eval s = v) (hown : OwE ET10 9 w v l)
    (y : Value) (hx : a.eval x = y) (m : List (List UInt8)) (hy : RdE ET10 w y m) (hl : l.length + m.length ≤ 3000000)
    (h : ∀ A n c w', OwE ET10 9 w' (.slice A n c) (l ++ m) → Turn (fun k => v.ownBlock = some k) w w' → ((Value.slice A n c).ownBlock = v.ownBlock ∨ (Value.slice A n c).ownBlock = some w.heap.size) → wpList Try.prog ops Q rest (a.put o.dst (.slice A n c)) w') :
    wpList Try.prog ops Q (o :: rest) a w :=
  wpList_appE Try.underlying42 str_info10 str_zero10 w hgd s x _ ho v l hs hown y hx m (hy.src Try.underlying42) (by simp only [maxLen]; omega) (by omega) h

end Go.Proofs.Ytamcgoamkakpkaa
