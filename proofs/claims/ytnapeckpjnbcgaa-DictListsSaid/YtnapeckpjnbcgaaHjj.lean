
/-
  A tree's keys, rising, handed to a round each, as far as it wants them (keys int64, values int).
-/
import Derived.Test.YtnapeckpjnbcgaaHfj
import Derived.Test.YtnapeckpjnbcgaaIc
import Derived.Test.YtnapeckpjnbcgaaIq
import Derived.Test.YtnapeckpjnbcgaaId
namespace Go.Proofs.Ytnapeckpjnbcgaa.omj
open Go.RowKit Go.Shelf
attribute [local go_sem] Oper.semAt_some wide_fn

/-- A pair, handed to a round. -/
abbrev prs (x : Int × Int) : Array Value := #[(.int .i64 x.1), (.int .i64 x.2)]
/-- What a tree has to tell: what is not ahead. -/
def Kept (ah : Int → Bool) (x : Tr Int Int) : List (Int × Int) := x.flat.filter fun p => !ah p.1
/-- What is ahead stands ahead. -/
def Falls (ah : Int → Bool) : Prop := ∀ a b, ltI a b = true → ah b = true → ah a = true
theorem kept_ahead {ah : Int → Bool} (hf : Falls ah) {l r : Tr Int Int} {k : Int} {v : Int} (hu : Up ltI (Tr.node l k v r).flat) (hk : ah k = true) : Kept ah (.node l k v r) = Kept ah r := by
  obtain ⟨_, _, h3⟩ := up_parts hu
  unfold Kept
  rw [flat_node, List.filter_append, List.filter_cons, if_neg (by simp [hk])]
  have : l.flat.filter (fun p => !ah p.1) = [] := by
    rw [List.filter_eq_nil_iff]
    intro p hp
    simp [hf _ _ (h3 p hp) hk]
  rw [this, List.nil_append]
theorem kept_node {ah : Int → Bool} {l r : Tr Int Int} {k : Int} {v : Int} (hk : ah k = false) : Kept ah (.node l k v r) = Kept ah l ++ (k, v) :: Kept ah r := by
  unfold Kept
  rw [flat_node, List.filter_append, List.filter_cons, if_pos (by simp [hk])]

/-- A tree that lay at W0, in a world behind rounds. -/
structure Base (S : Nat → Prop) (W0 : World) : Prop where
  far : ∀ g cs, Box W0 g 100 cs → ¬ S g
theorem Base.nd {S : Nat → Prop} {W0 W : World} (h : Base S W0) (ht : Turn S W0 W) {x : Tr Int Int} {p : Value} (hx : Nd W0 x p) : Nd W x p := hx.turn ht h.far
theorem Base.one {S : Nat → Prop} {W0 W : World} (h : Base S W0) (ht : Turn S W0 W) {g : Nat} {k : Int} {v : Int} {pl pr : Value} {n : Nat} (hx : One W0 g k v pl pr n) : One W g k v pl pr n := Box.turn hx ht (h.far g _ hx)

/-- Behind a tree that was told, or a round that wanted no more. -/
def Told (l : Nat) (S : Nat → Prop) (W0 W : World) (J Jx : List (Int × Int) → World → Prop) (L : List (Int × Int)) (e : Ending) (W' : World) : Prop :=
  (e = .returned (.bool true) ∧ J L W' ∧ Turn S W0 W' ∧ Still (l + 1) W W') ∨ (e = .returned (.bool false) ∧ (∃ q, q <+: L ∧ Jx q W') ∧ Still (l + 1) W W')

/-- What a round, and what says what is ahead, promise. -/
structure Rounds (l : Nat) (fa : Nat) (caps : Array Value) (ah : Int → Bool) (S : Nat → Prop) (W0 : World) (J Jx : List (Int × Int) → World → Prop) (T : List (Int × Int)) : Prop where
  draws : ∀ pre W, J pre W → J pre W.drew
  enters : ∀ args w, (callFunc fa args).run Try.prog w = .ok (.enter fa args) w
  ahead : ∀ key W, Turn S W0 W → Calls Try.prog fa (#[(.int .i64 key)] ++ caps) W fun e W' => e = .returned (.bool (ah key)) ∧ W = W'
  yield : ∀ pre x W, J pre W → Turn S W0 W → pre ++ [x] <+: T → YieldAt Fence.wide 0 Try.prog l (prs x) W fun e W' => (e = .returned (.bool true) ∧ J (pre ++ [x]) W' ∧ Turn S W W' ∧ Still (l + 1) W W') ∨ (e = .returned (.bool false) ∧ Jx (pre ++ [x]) W' ∧ Still (l + 1) W W')

set_option maxRecDepth 100000 in
set_option maxHeartbeats 2000000 in
theorem each_any (l fa : Nat) (caps : Array Value) (ah : Int → Bool) (S : Nat → Prop) (W0 : World) (J Jx : List (Int × Int) → World → Prop) (T : List (Int × Int)) (hR : Rounds l fa caps ah S W0 J Jx T) (hB : Base S W0) (hfa : Falls ah) (x : Tr Int Int) :
    ∀ (p : Value) (pre : List (Int × Int)) (W : World), Nd W0 x p → Turn S W0 W → J pre W → Up ltI x.flat → pre ++ Kept ah x <+: T →
    CallsIn Fence.wide 0 Try.prog 64 #[p, .func (.func fa) #[] caps, .func (.yield l) #[] #[]] W fun e W' => Told l S W0 W J Jx (pre ++ Kept ah x) e W' := by
  induction x with
  | nil =>
    intro p pre W hx ht hj _ _
    obtain rfl : p = .pointer none := hx
    refine callsIn_of_wp Try.func64 rfl trivial ?_ rfl
    simp only [Try.ntmps64, List.size_toArray, List.length_cons, List.length_nil, Nat.reduceAdd, Nat.reduceSub, Array.replicate_succ, Array.replicate_zero, List.push_toArray, List.append_toArray, List.nil_append, List.cons_append]
    gi_wp2
    go_ret
    exact .inl ⟨rfl, by show J (pre ++ []) W; rw [List.append_nil]; exact hj, ht, Still.refl _ _⟩
  | node tl k v tr ihl ihr =>
    intro p pre W hx ht hj hu hT
    obtain ⟨g, pl, pr, rfl, hg, hl, hr⟩ := nd_node hx
    have HG : Hid (∀ W, Turn S W0 W → One W g k v pl pr (tl.cnt + tr.cnt + 1)) := fun W ht => hB.one ht hg
    have HL := Lib.hid hl; have HR := Lib.hid hr; have HRR := Lib.hid hR; have HJ := Lib.hid hj; have HT := Lib.hid ht; have HPT := Lib.hid hT
    obtain ⟨hu1, hu2, _⟩ := up_parts hu
    obtain ⟨pl, rfl⟩ := hl.shape
    obtain ⟨pr, rfl⟩ := hr.shape
    obtain ⟨c0, c1, c2, c3, -⟩ := (HG.out W ht).cells
    have HA := Lib.hid (hR.ahead k W ht)
    have HE := hR.enters
    cases hk : ah k with
    | true =>
      rw [hk] at HA
      have HKE := Lib.hid (kept_ahead hfa hu hk)
      rw [HKE.out] at HPT ⊢
      have HI : Hid (∀ W, Turn S W0 W → J pre W → CallsIn Fence.wide 0 Try.prog 64 #[.pointer pr, .func (.func fa) #[] caps, .func (.yield l) #[] #[]] W fun e W' => Told l S W0 W J Jx (pre ++ Kept ah tr) e W') := fun W ht hj => ihr _ pre W HR.out ht hj hu2 HPT.out
      clear hk hu hu1 hu2 hx hg hl hr hR hj ht hT ihl ihr hB
      refine callsIn_of_wp Try.func64 rfl trivial ?_ rfl
      simp only [Try.ntmps64, List.size_toArray, List.length_cons, List.length_nil, Nat.reduceAdd, Nat.reduceSub, Array.replicate_succ, Array.replicate_zero, List.push_toArray, List.append_toArray, List.nil_append, List.cons_append]
      gi_wp2_with fail
      refine ⟨rfl, (callsIn_wide.2 HA.out).mono ?_⟩
      rintro e w' ⟨rfl, rfl⟩
      gi_wp2_with fail
      refine ⟨rfl, (HI.out W HT.out HJ.out).mono ?_⟩
      rintro e w' (⟨rfl, hh⟩ | ⟨rfl, hh⟩)
      · have HH := Lib.hid hh; clear hh
        gi_wp2
        go_ret
        exact .inl ⟨rfl, HH.out⟩
      · have HH := Lib.hid hh; clear hh
        gi_wp2
        go_ret
        exact .inr ⟨rfl, HH.out⟩
    | false =>
      rw [hk] at HA
      have HKE := Lib.hid (kept_node (l := tl) (r := tr) (v := v) hk)
      have HI : Hid (∀ W, Turn S W0 W → J pre W → CallsIn Fence.wide 0 Try.prog 64 #[.pointer pl, .func (.func fa) #[] caps, .func (.yield l) #[] #[]] W fun e W' => Told l S W0 W J Jx (pre ++ Kept ah tl) e W') :=
        fun W ht hj => ihl _ pre W HL.out ht hj hu1 ((List.prefix_append_right_inj pre).2 (by rw [HKE.out]; exact List.prefix_append _ _) |>.trans HPT.out)
      have HI2 : Hid (∀ W, Turn S W0 W → J (pre ++ Kept ah tl ++ [(k, v)]) W → CallsIn Fence.wide 0 Try.prog 64 #[.pointer pr, .func (.func fa) #[] caps, .func (.yield l) #[] #[]] W fun e W' => Told l S W0 W J Jx (pre ++ Kept ah (Tr.node tl k v tr)) e W') := fun W ht hj => by
        have h := ihr _ (pre ++ Kept ah tl ++ [(k, v)]) W HR.out ht hj hu2
        have e : pre ++ Kept ah tl ++ [(k, v)] ++ Kept ah tr = pre ++ Kept ah (Tr.node tl k v tr) := by rw [HKE.out]; simp
        rw [e] at h
        exact h HPT.out
      have HY : Hid (∀ W, Turn S W0 W → J (pre ++ Kept ah tl) W → YieldAt Fence.wide 0 Try.prog l #[(.int .i64 k), (.int .i64 v)] W fun e W' => (e = .returned (.bool true) ∧ J (pre ++ Kept ah tl ++ [(k, v)]) W' ∧ Turn S W W' ∧ Still (l + 1) W W') ∨ (e = .returned (.bool false) ∧ Jx (pre ++ Kept ah tl ++ [(k, v)]) W' ∧ Still (l + 1) W W')) :=
        fun W ht hj => HRR.out.yield _ (k, v) W hj ht (List.IsPrefix.trans ⟨Kept ah tr, by rw [HKE.out]; simp⟩ HPT.out)
      clear hk hu hu1 hu2 hx hg hl hr hR hj ht hT ihl ihr hB
      refine callsIn_of_wp Try.func64 rfl trivial ?_ rfl
      simp only [Try.ntmps64, List.size_toArray, List.length_cons, List.length_nil, Nat.reduceAdd, Nat.reduceSub, Array.replicate_succ, Array.replicate_zero, List.push_toArray, List.append_toArray, List.nil_append, List.cons_append]
      gi_wp2_with fail
      refine ⟨rfl, (callsIn_wide.2 HA.out).mono ?_⟩
      rintro e w' ⟨rfl, rfl⟩
      gi_wp2_with fail
      obtain ⟨d0, d1, d2, d3, -⟩ := (HG.out _ HT.out.drew).cells
      refine wpIn_region_any (by kernel_rfl) ?_
      change wpAnyIn _ _ _ _ _ _ _ _ _ (World.drew _)
      refine take_at 0 22 (.pointer (some ⟨g, 0, none⟩)) rfl rfl rfl (by kernel_rfl) (by kernel_rfl) (by kernel_rfl) (fun _ _ _ h => h) ⟨Or.inl ⟨by rfl, by intro w; go_simp⟩, fun _ => rfl⟩ ?_
      simp only [List.setIfInBounds_toArray, List.set_cons_zero, List.set_cons_succ]
      refine take_at 1 23 (.pointer (some ⟨g, 0, none⟩)) rfl rfl rfl (by kernel_rfl) (by kernel_rfl) (by kernel_rfl) (fun _ _ _ h => h) ⟨Or.inl ⟨by rfl, by intro w; go_simp⟩, fun _ => rfl⟩ ?_
      simp only [List.setIfInBounds_toArray, List.set_cons_zero, List.set_cons_succ]
      refine take_at 2 24 (.pointer (some ⟨g, 2, none⟩)) rfl rfl rfl (by kernel_rfl) (by kernel_rfl) (by kernel_rfl) (fun _ _ _ h => h) ⟨Or.inl ⟨by rfl, by intro w; go_simp⟩, fun _ => rfl⟩ ?_
      simp only [List.setIfInBounds_toArray, List.set_cons_zero, List.set_cons_succ]
      refine take_at 4 26 (.func (.func fa) #[] caps) rfl rfl rfl (by kernel_rfl) (by kernel_rfl) (by kernel_rfl) (fun _ _ _ h => h) ⟨Or.inl ⟨by rfl, by intro w; go_simp⟩, fun _ => rfl⟩ ?_
      simp only [List.setIfInBounds_toArray, List.set_cons_zero, List.set_cons_succ]
      refine take_at 5 27 (.func (.yield l) #[] #[]) rfl rfl rfl (by kernel_rfl) (by kernel_rfl) (by kernel_rfl) (fun _ _ _ h => h) ⟨Or.inl ⟨by rfl, by intro w; go_simp⟩, fun _ => rfl⟩ ?_
      simp only [List.setIfInBounds_toArray, List.set_cons_zero, List.set_cons_succ]
      refine wpAnyIn_ready (rs := [3]) (by kernel_rfl) (by simp) (AllReadyIn.cons rfl (fun K hK => ?_) AllReadyIn.nil)
      go_simp
      refine hK _ _ ?_
      clear hK K
      refine wpAnyIn_ready (rs := [6]) (by kernel_rfl) (by simp) (AllReadyIn.cons rfl (fun K hK => ?_) AllReadyIn.nil)
      go_simp
      refine ⟨rfl, (HI.out _ HT.out.drew (HRR.out.draws _ _ HJ.out)).mono ?_⟩
      rintro e W1 (⟨rfl, hj1, ht1, hs1⟩ | ⟨rfl, hq1, hs1⟩)
      · have HS1 := Lib.hid hs1; have HT1 := Lib.hid ht1
        obtain ⟨e0, e1, e2, e3, -⟩ := (HG.out _ ht1).cells
        obtain ⟨fn, tm, asg, bo, hy, hrr⟩ := HY.out W1 ht1 hj1
        have HRO := Lib.hid hrr
        clear hj1 ht1 hs1 hrr d0 d1 d2 d3
        refine hK _ _ ?_
        clear hK K
        refine take_at 7 29 (.bool true) rfl rfl rfl (by kernel_rfl) (by kernel_rfl) (by kernel_rfl) (fun _ _ _ h => h) ⟨Or.inl ⟨by rfl, by intro w; go_simp⟩, fun _ => rfl⟩ ?_
        simp only [List.setIfInBounds_toArray, List.set_cons_zero, List.set_cons_succ]
        refine take_at 8 30 (.func (.yield l) #[] #[]) rfl rfl rfl (by kernel_rfl) (by kernel_rfl) (by kernel_rfl) (fun _ _ _ h => h) ⟨Or.inl ⟨by rfl, by intro w; go_simp⟩, fun _ => rfl⟩ ?_
        simp only [List.setIfInBounds_toArray, List.set_cons_zero, List.set_cons_succ]
        refine take_at 9 31 (.pointer (some ⟨g, 0, none⟩)) rfl rfl rfl (by kernel_rfl) (by kernel_rfl) (by kernel_rfl) (fun _ _ _ h => h) ⟨Or.inl ⟨by rfl, by intro w; go_simp⟩, fun _ => rfl⟩ ?_
        simp only [List.setIfInBounds_toArray, List.set_cons_zero, List.set_cons_succ]
        refine take_at 10 32 (.pointer (some ⟨g, 0, none⟩)) rfl rfl rfl (by kernel_rfl) (by kernel_rfl) (by kernel_rfl) (fun _ _ _ h => h) ⟨Or.inl ⟨by rfl, by intro w; go_simp⟩, fun _ => rfl⟩ ?_
        simp only [List.setIfInBounds_toArray, List.set_cons_zero, List.set_cons_succ]
        refine take_at 11 33 (.pointer (some ⟨g, 0, none⟩)) rfl rfl rfl (by kernel_rfl) (by kernel_rfl) (by kernel_rfl) (fun _ _ _ h => h) ⟨Or.inl ⟨by rfl, by intro w; go_simp⟩, fun _ => rfl⟩ ?_
        simp only [List.setIfInBounds_toArray, List.set_cons_zero, List.set_cons_succ]
        refine take_at 13 35 (.pointer (some ⟨g, 0, none⟩)) rfl rfl rfl (by kernel_rfl) (by kernel_rfl) (by kernel_rfl) (fun _ _ _ h => h) ⟨Or.inl ⟨by rfl, by intro w; go_simp⟩, fun _ => rfl⟩ ?_
        simp only [List.setIfInBounds_toArray, List.set_cons_zero, List.set_cons_succ]
        refine take_at 14 36 (.pointer (some ⟨g, 0, none⟩)) rfl rfl rfl (by kernel_rfl) (by kernel_rfl) (by kernel_rfl) (fun _ _ _ h => h) ⟨Or.inl ⟨by rfl, by intro w; go_simp⟩, fun _ => rfl⟩ ?_
        simp only [List.setIfInBounds_toArray, List.set_cons_zero, List.set_cons_succ]
        refine take_at 15 37 (.pointer (some ⟨g, 1, none⟩)) rfl rfl rfl (by kernel_rfl) (by kernel_rfl) (by kernel_rfl) (fun _ _ _ h => h) ⟨Or.inl ⟨by rfl, by intro w; go_simp⟩, fun _ => rfl⟩ ?_
        simp only [List.setIfInBounds_toArray, List.set_cons_zero, List.set_cons_succ]
        refine wpAnyIn_ready (rs := [12, 16]) (by kernel_rfl) (by simp) (AllReadyIn.cons rfl (fun K hK => ?_) (AllReadyIn.cons rfl (fun K hK => ?_) AllReadyIn.nil))
        · go_simp
          refine hK _ _ ?_
          clear hK K
          refine wpAnyIn_ready (rs := [16]) (by kernel_rfl) (by simp) (AllReadyIn.cons rfl (fun K hK => ?_) AllReadyIn.nil)
          go_simp
          refine hK _ _ ?_
          clear hK K
          refine wpAnyIn_ready (rs := [17]) (by kernel_rfl) (by simp) (AllReadyIn.cons rfl (fun K hK => ?_) AllReadyIn.nil)
          go_simp
          refine ⟨rfl, HRO.out.mono ?_⟩
          rintro e W2 (⟨rfl, hj2, ht2, hs2⟩ | ⟨rfl, hx2, hs2⟩)
          · have HS2 := Lib.hid hs2; have HT2 := Lib.hid (HT1.out.trans ht2 (fun _ _ s => s)); have HJ2 := Lib.hid hj2
            obtain ⟨f0, f1, f2, f3, -⟩ := (HG.out _ HT2.out).cells
            clear hs2 ht2 hj2 e0 e1 e2 e3
            refine hK _ _ ?_
            clear hK K
            refine take_at 18 40 (.bool true) rfl rfl rfl (by kernel_rfl) (by kernel_rfl) (by kernel_rfl) (fun _ _ _ h => h) ⟨Or.inl ⟨by rfl, by intro w; go_simp⟩, fun _ => rfl⟩ ?_
            simp only [List.setIfInBounds_toArray, List.set_cons_zero, List.set_cons_succ]
            refine take_at 19 41 (.bool true) rfl rfl rfl (by kernel_rfl) (by kernel_rfl) (by kernel_rfl) (fun _ _ _ h => h) ⟨Or.inl ⟨by rfl, by intro w; go_simp⟩, fun _ => rfl⟩ ?_
            simp only [List.setIfInBounds_toArray, List.set_cons_zero, List.set_cons_succ]
            refine take_at 20 42 (.pointer (some ⟨g, 0, none⟩)) rfl rfl rfl (by kernel_rfl) (by kernel_rfl) (by kernel_rfl) (fun _ _ _ h => h) ⟨Or.inl ⟨by rfl, by intro w; go_simp⟩, fun _ => rfl⟩ ?_
            simp only [List.setIfInBounds_toArray, List.set_cons_zero, List.set_cons_succ]
            refine take_at 21 43 (.pointer (some ⟨g, 0, none⟩)) rfl rfl rfl (by kernel_rfl) (by kernel_rfl) (by kernel_rfl) (fun _ _ _ h => h) ⟨Or.inl ⟨by rfl, by intro w; go_simp⟩, fun _ => rfl⟩ ?_
            simp only [List.setIfInBounds_toArray, List.set_cons_zero, List.set_cons_succ]
            refine take_at 22 44 (.pointer (some ⟨g, 3, none⟩)) rfl rfl rfl (by kernel_rfl) (by kernel_rfl) (by kernel_rfl) (fun _ _ _ h => h) ⟨Or.inl ⟨by rfl, by intro w; go_simp⟩, fun _ => rfl⟩ ?_
            simp only [List.setIfInBounds_toArray, List.set_cons_zero, List.set_cons_succ]
            refine take_at 24 46 (.func (.func fa) #[] caps) rfl rfl rfl (by kernel_rfl) (by kernel_rfl) (by kernel_rfl) (fun _ _ _ h => h) ⟨Or.inl ⟨by rfl, by intro w; go_simp⟩, fun _ => rfl⟩ ?_
            simp only [List.setIfInBounds_toArray, List.set_cons_zero, List.set_cons_succ]
            refine take_at 25 47 (.func (.yield l) #[] #[]) rfl rfl rfl (by kernel_rfl) (by kernel_rfl) (by kernel_rfl) (fun _ _ _ h => h) ⟨Or.inl ⟨by rfl, by intro w; go_simp⟩, fun _ => rfl⟩ ?_
            simp only [List.setIfInBounds_toArray, List.set_cons_zero, List.set_cons_succ]
            refine wpAnyIn_ready (rs := [23]) (by kernel_rfl) (by simp) (AllReadyIn.cons rfl (fun K hK => ?_) AllReadyIn.nil)
            go_simp
            refine hK _ _ ?_
            clear hK K
            refine wpAnyIn_ready (rs := [26]) (by kernel_rfl) (by simp) (AllReadyIn.cons rfl (fun K hK => ?_) AllReadyIn.nil)
            go_simp
            refine ⟨rfl, (HI2.out W2 HT2.out HJ2.out).mono ?_⟩
            rintro e W3 (⟨rfl, hj3, ht3, hs3⟩ | ⟨rfl, hq3, hs3⟩)
            · have HS3 := Lib.hid hs3; have HT3 := Lib.hid ht3; have HJ3 := Lib.hid hj3
              clear hs3 ht3 hj3
              refine hK _ _ ?_
              clear hK K
              refine take_at 27 49 (.bool true) rfl rfl rfl (by kernel_rfl) (by kernel_rfl) (by kernel_rfl) (fun _ _ _ h => h) ⟨Or.inl ⟨by rfl, by intro w; go_simp⟩, fun _ => rfl⟩ ?_
              simp only [List.setIfInBounds_toArray, List.set_cons_zero, List.set_cons_succ]
              refine take_at 28 6 (.bool true) rfl rfl rfl (by kernel_rfl) (by kernel_rfl) (by kernel_rfl) (fun _ _ _ h => h) ⟨Or.inl ⟨by rfl, by intro w; go_simp⟩, fun _ => rfl⟩ ?_
              simp only [List.setIfInBounds_toArray, List.set_cons_zero, List.set_cons_succ]
              refine wpAnyIn_done (by kernel_rfl) ?_ _
              gi_wp2
              go_ret
              exact .inl ⟨rfl, HJ3.out, HT3.out, (Still.turned (Turn.refl _ W).drew).trans (HS1.out.trans (HS2.out.trans HS3.out))⟩
            · have HS3 := Lib.hid hs3; have HQ3 := Lib.hid hq3
              clear hs3 hq3
              refine hK _ _ ?_
              clear hK K
              refine take_at 27 49 (.bool false) rfl rfl rfl (by kernel_rfl) (by kernel_rfl) (by kernel_rfl) (fun _ _ _ h => h) ⟨Or.inl ⟨by rfl, by intro w; go_simp⟩, fun _ => rfl⟩ ?_
              simp only [List.setIfInBounds_toArray, List.set_cons_zero, List.set_cons_succ]
              refine take_at 28 6 (.bool false) rfl rfl rfl (by kernel_rfl) (by kernel_rfl) (by kernel_rfl) (fun _ _ _ h => h) ⟨Or.inl ⟨by rfl, by intro w; go_simp⟩, fun _ => rfl⟩ ?_
              simp only [List.setIfInBounds_toArray, List.set_cons_zero, List.set_cons_succ]
              refine wpAnyIn_done (by kernel_rfl) ?_ _
              gi_wp2
              go_ret
              exact .inr ⟨rfl, HQ3.out, (Still.turned (Turn.refl _ W).drew).trans (HS1.out.trans (HS2.out.trans HS3.out))⟩
          · have HS2 := Lib.hid hs2; have HX2 := Lib.hid hx2
            clear hs2 hx2
            refine hK _ _ ?_
            clear hK K
            refine take_at 18 40 (.bool false) rfl rfl rfl (by kernel_rfl) (by kernel_rfl) (by kernel_rfl) (fun _ _ _ h => h) ⟨Or.inl ⟨by rfl, by intro w; go_simp⟩, fun _ => rfl⟩ ?_
            simp only [List.setIfInBounds_toArray, List.set_cons_zero, List.set_cons_succ]
            refine take_at 19 41 (.bool false) rfl rfl rfl (by kernel_rfl) (by kernel_rfl) (by kernel_rfl) (fun _ _ _ h => h) ⟨Or.inl ⟨by rfl, by intro w; go_simp⟩, fun _ => rfl⟩ ?_
            simp only [List.setIfInBounds_toArray, List.set_cons_zero, List.set_cons_succ]
            refine take_at 20 42 undef rfl rfl rfl (by kernel_rfl) (by kernel_rfl) (by kernel_rfl) (fun _ _ _ h => h) ⟨Or.inr ⟨by rfl, rfl⟩, fun _ => rfl⟩ ?_
            simp only [List.setIfInBounds_toArray, List.set_cons_zero, List.set_cons_succ]
            refine take_at 21 43 undef rfl rfl rfl (by kernel_rfl) (by kernel_rfl) (by kernel_rfl) (fun _ _ _ h => h) ⟨Or.inr ⟨by rfl, rfl⟩, fun _ => rfl⟩ ?_
            simp only [List.setIfInBounds_toArray, List.set_cons_zero, List.set_cons_succ]
            refine take_at 22 44 undef rfl rfl rfl (by kernel_rfl) (by kernel_rfl) (by kernel_rfl) (fun _ _ _ h => h) ⟨Or.inr ⟨by rfl, rfl⟩, fun _ => rfl⟩ ?_
            simp only [List.setIfInBounds_toArray, List.set_cons_zero, List.set_cons_succ]
            refine take_at 23 45 undef rfl rfl rfl (by kernel_rfl) (by kernel_rfl) (by kernel_rfl) (fun _ _ _ h => h) ⟨Or.inr ⟨by rfl, rfl⟩, fun _ => rfl⟩ ?_
            simp only [List.setIfInBounds_toArray, List.set_cons_zero, List.set_cons_succ]
            refine take_at 24 46 undef rfl rfl rfl (by kernel_rfl) (by kernel_rfl) (by kernel_rfl) (fun _ _ _ h => h) ⟨Or.inr ⟨by rfl, rfl⟩, fun _ => rfl⟩ ?_
            simp only [List.setIfInBounds_toArray, List.set_cons_zero, List.set_cons_succ]
            refine take_at 25 47 undef rfl rfl rfl (by kernel_rfl) (by kernel_rfl) (by kernel_rfl) (fun _ _ _ h => h) ⟨Or.inr ⟨by rfl, rfl⟩, fun _ => rfl⟩ ?_
            simp only [List.setIfInBounds_toArray, List.set_cons_zero, List.set_cons_succ]
            refine wpAnyIn_ready (rs := [26]) (by kernel_rfl) (by simp) (AllReadyIn.cons rfl (fun K hK => ?_) AllReadyIn.nil)
            rw [if_neg (by simp [Region.wanted, yielded])]
            refine ⟨fun f hf => trivial, ?_⟩
            refine hK _ _ ?_
            clear hK K
            refine take_at 27 49 (.bool false) rfl rfl rfl (by kernel_rfl) (by kernel_rfl) (by kernel_rfl) (fun _ _ _ h => h) ⟨Or.inl ⟨by rfl, by intro w; go_simp⟩, fun _ => rfl⟩ ?_
            simp only [List.setIfInBounds_toArray, List.set_cons_zero, List.set_cons_succ]
            refine take_at 28 6 (.bool false) rfl rfl rfl (by kernel_rfl) (by kernel_rfl) (by kernel_rfl) (fun _ _ _ h => h) ⟨Or.inl ⟨by rfl, by intro w; go_simp⟩, fun _ => rfl⟩ ?_
            simp only [List.setIfInBounds_toArray, List.set_cons_zero, List.set_cons_succ]
            refine wpAnyIn_done (by kernel_rfl) ?_ _
            gi_wp2
            go_ret
            exact .inr ⟨rfl, ⟨_, by rw [HKE.out]; exact ⟨Kept ah tr, by simp⟩, HX2.out⟩, (Still.turned (Turn.refl _ W).drew).trans (HS1.out.trans HS2.out)⟩
        · go_simp
          refine hK _ _ ?_
          clear hK K
          refine wpAnyIn_ready (rs := [12]) (by kernel_rfl) (by simp) (AllReadyIn.cons rfl (fun K hK => ?_) AllReadyIn.nil)
          go_simp
          refine hK _ _ ?_
          clear hK K
          refine wpAnyIn_ready (rs := [17]) (by kernel_rfl) (by simp) (AllReadyIn.cons rfl (fun K hK => ?_) AllReadyIn.nil)
          go_simp
          refine ⟨rfl, HRO.out.mono ?_⟩
          rintro e W2 (⟨rfl, hj2, ht2, hs2⟩ | ⟨rfl, hx2, hs2⟩)
          · have HS2 := Lib.hid hs2; have HT2 := Lib.hid (HT1.out.trans ht2 (fun _ _ s => s)); have HJ2 := Lib.hid hj2
            obtain ⟨f0, f1, f2, f3, -⟩ := (HG.out _ HT2.out).cells
            clear hs2 ht2 hj2 e0 e1 e2 e3
            refine hK _ _ ?_
            clear hK K
            refine take_at 18 40 (.bool true) rfl rfl rfl (by kernel_rfl) (by kernel_rfl) (by kernel_rfl) (fun _ _ _ h => h) ⟨Or.inl ⟨by rfl, by intro w; go_simp⟩, fun _ => rfl⟩ ?_
            simp only [List.setIfInBounds_toArray, List.set_cons_zero, List.set_cons_succ]
            refine take_at 19 41 (.bool true) rfl rfl rfl (by kernel_rfl) (by kernel_rfl) (by kernel_rfl) (fun _ _ _ h => h) ⟨Or.inl ⟨by rfl, by intro w; go_simp⟩, fun _ => rfl⟩ ?_
            simp only [List.setIfInBounds_toArray, List.set_cons_zero, List.set_cons_succ]
            refine take_at 20 42 (.pointer (some ⟨g, 0, none⟩)) rfl rfl rfl (by kernel_rfl) (by kernel_rfl) (by kernel_rfl) (fun _ _ _ h => h) ⟨Or.inl ⟨by rfl, by intro w; go_simp⟩, fun _ => rfl⟩ ?_
            simp only [List.setIfInBounds_toArray, List.set_cons_zero, List.set_cons_succ]
            refine take_at 21 43 (.pointer (some ⟨g, 0, none⟩)) rfl rfl rfl (by kernel_rfl) (by kernel_rfl) (by kernel_rfl) (fun _ _ _ h => h) ⟨Or.inl ⟨by rfl, by intro w; go_simp⟩, fun _ => rfl⟩ ?_
            simp only [List.setIfInBounds_toArray, List.set_cons_zero, List.set_cons_succ]
            refine take_at 22 44 (.pointer (some ⟨g, 3, none⟩)) rfl rfl rfl (by kernel_rfl) (by kernel_rfl) (by kernel_rfl) (fun _ _ _ h => h) ⟨Or.inl ⟨by rfl, by intro w; go_simp⟩, fun _ => rfl⟩ ?_
            simp only [List.setIfInBounds_toArray, List.set_cons_zero, List.set_cons_succ]
            refine take_at 24 46 (.func (.func fa) #[] caps) rfl rfl rfl (by kernel_rfl) (by kernel_rfl) (by kernel_rfl) (fun _ _ _ h => h) ⟨Or.inl ⟨by rfl, by intro w; go_simp⟩, fun _ => rfl⟩ ?_
            simp only [List.setIfInBounds_toArray, List.set_cons_zero, List.set_cons_succ]
            refine take_at 25 47 (.func (.yield l) #[] #[]) rfl rfl rfl (by kernel_rfl) (by kernel_rfl) (by kernel_rfl) (fun _ _ _ h => h) ⟨Or.inl ⟨by rfl, by intro w; go_simp⟩, fun _ => rfl⟩ ?_
            simp only [List.setIfInBounds_toArray, List.set_cons_zero, List.set_cons_succ]
            refine wpAnyIn_ready (rs := [23]) (by kernel_rfl) (by simp) (AllReadyIn.cons rfl (fun K hK => ?_) AllReadyIn.nil)
            go_simp
            refine hK _ _ ?_
            clear hK K
            refine wpAnyIn_ready (rs := [26]) (by kernel_rfl) (by simp) (AllReadyIn.cons rfl (fun K hK => ?_) AllReadyIn.nil)
            go_simp
            refine ⟨rfl, (HI2.out W2 HT2.out HJ2.out).mono ?_⟩
            rintro e W3 (⟨rfl, hj3, ht3, hs3⟩ | ⟨rfl, hq3, hs3⟩)
            · have HS3 := Lib.hid hs3; have HT3 := Lib.hid ht3; have HJ3 := Lib.hid hj3
              clear hs3 ht3 hj3
              refine hK _ _ ?_
              clear hK K
              refine take_at 27 49 (.bool true) rfl rfl rfl (by kernel_rfl) (by kernel_rfl) (by kernel_rfl) (fun _ _ _ h => h) ⟨Or.inl ⟨by rfl, by intro w; go_simp⟩, fun _ => rfl⟩ ?_
              simp only [List.setIfInBounds_toArray, List.set_cons_zero, List.set_cons_succ]
              refine take_at 28 6 (.bool true) rfl rfl rfl (by kernel_rfl) (by kernel_rfl) (by kernel_rfl) (fun _ _ _ h => h) ⟨Or.inl ⟨by rfl, by intro w; go_simp⟩, fun _ => rfl⟩ ?_
              simp only [List.setIfInBounds_toArray, List.set_cons_zero, List.set_cons_succ]
              refine wpAnyIn_done (by kernel_rfl) ?_ _
              gi_wp2
              go_ret
              exact .inl ⟨rfl, HJ3.out, HT3.out, (Still.turned (Turn.refl _ W).drew).trans (HS1.out.trans (HS2.out.trans HS3.out))⟩
            · have HS3 := Lib.hid hs3; have HQ3 := Lib.hid hq3
              clear hs3 hq3
              refine hK _ _ ?_
              clear hK K
              refine take_at 27 49 (.bool false) rfl rfl rfl (by kernel_rfl) (by kernel_rfl) (by kernel_rfl) (fun _ _ _ h => h) ⟨Or.inl ⟨by rfl, by intro w; go_simp⟩, fun _ => rfl⟩ ?_
              simp only [List.setIfInBounds_toArray, List.set_cons_zero, List.set_cons_succ]
              refine take_at 28 6 (.bool false) rfl rfl rfl (by kernel_rfl) (by kernel_rfl) (by kernel_rfl) (fun _ _ _ h => h) ⟨Or.inl ⟨by rfl, by intro w; go_simp⟩, fun _ => rfl⟩ ?_
              simp only [List.setIfInBounds_toArray, List.set_cons_zero, List.set_cons_succ]
              refine wpAnyIn_done (by kernel_rfl) ?_ _
              gi_wp2
              go_ret
              exact .inr ⟨rfl, HQ3.out, (Still.turned (Turn.refl _ W).drew).trans (HS1.out.trans (HS2.out.trans HS3.out))⟩
          · have HS2 := Lib.hid hs2; have HX2 := Lib.hid hx2
            clear hs2 hx2
            refine hK _ _ ?_
            clear hK K
            refine take_at 18 40 (.bool false) rfl rfl rfl (by kernel_rfl) (by kernel_rfl) (by kernel_rfl) (fun _ _ _ h => h) ⟨Or.inl ⟨by rfl, by intro w; go_simp⟩, fun _ => rfl⟩ ?_
            simp only [List.setIfInBounds_toArray, List.set_cons_zero, List.set_cons_succ]
            refine take_at 19 41 (.bool false) rfl rfl rfl (by kernel_rfl) (by kernel_rfl) (by kernel_rfl) (fun _ _ _ h => h) ⟨Or.inl ⟨by rfl, by intro w; go_simp⟩, fun _ => rfl⟩ ?_
            simp only [List.setIfInBounds_toArray, List.set_cons_zero, List.set_cons_succ]
            refine take_at 20 42 undef rfl rfl rfl (by kernel_rfl) (by kernel_rfl) (by kernel_rfl) (fun _ _ _ h => h) ⟨Or.inr ⟨by rfl, rfl⟩, fun _ => rfl⟩ ?_
            simp only [List.setIfInBounds_toArray, List.set_cons_zero, List.set_cons_succ]
            refine take_at 21 43 undef rfl rfl rfl (by kernel_rfl) (by kernel_rfl) (by kernel_rfl) (fun _ _ _ h => h) ⟨Or.inr ⟨by rfl, rfl⟩, fun _ => rfl⟩ ?_
            simp only [List.setIfInBounds_toArray, List.set_cons_zero, List.set_cons_succ]
            refine take_at 22 44 undef rfl rfl rfl (by kernel_rfl) (by kernel_rfl) (by kernel_rfl) (fun _ _ _ h => h) ⟨Or.inr ⟨by rfl, rfl⟩, fun _ => rfl⟩ ?_
            simp only [List.setIfInBounds_toArray, List.set_cons_zero, List.set_cons_succ]
            refine take_at 23 45 undef rfl rfl rfl (by kernel_rfl) (by kernel_rfl) (by kernel_rfl) (fun _ _ _ h => h) ⟨Or.inr ⟨by rfl, rfl⟩, fun _ => rfl⟩ ?_
            simp only [List.setIfInBounds_toArray, List.set_cons_zero, List.set_cons_succ]
            refine take_at 24 46 undef rfl rfl rfl (by kernel_rfl) (by kernel_rfl) (by kernel_rfl) (fun _ _ _ h => h) ⟨Or.inr ⟨by rfl, rfl⟩, fun _ => rfl⟩ ?_
            simp only [List.setIfInBounds_toArray, List.set_cons_zero, List.set_cons_succ]
            refine take_at 25 47 undef rfl rfl rfl (by kernel_rfl) (by kernel_rfl) (by kernel_rfl) (fun _ _ _ h => h) ⟨Or.inr ⟨by rfl, rfl⟩, fun _ => rfl⟩ ?_
            simp only [List.setIfInBounds_toArray, List.set_cons_zero, List.set_cons_succ]
            refine wpAnyIn_ready (rs := [26]) (by kernel_rfl) (by simp) (AllReadyIn.cons rfl (fun K hK => ?_) AllReadyIn.nil)
            rw [if_neg (by simp [Region.wanted, yielded])]
            refine ⟨fun f hf => trivial, ?_⟩
            refine hK _ _ ?_
            clear hK K
            refine take_at 27 49 (.bool false) rfl rfl rfl (by kernel_rfl) (by kernel_rfl) (by kernel_rfl) (fun _ _ _ h => h) ⟨Or.inl ⟨by rfl, by intro w; go_simp⟩, fun _ => rfl⟩ ?_
            simp only [List.setIfInBounds_toArray, List.set_cons_zero, List.set_cons_succ]
            refine take_at 28 6 (.bool false) rfl rfl rfl (by kernel_rfl) (by kernel_rfl) (by kernel_rfl) (fun _ _ _ h => h) ⟨Or.inl ⟨by rfl, by intro w; go_simp⟩, fun _ => rfl⟩ ?_
            simp only [List.setIfInBounds_toArray, List.set_cons_zero, List.set_cons_succ]
            refine wpAnyIn_done (by kernel_rfl) ?_ _
            gi_wp2
            go_ret
            exact .inr ⟨rfl, ⟨_, by rw [HKE.out]; exact ⟨Kept ah tr, by simp⟩, HX2.out⟩, (Still.turned (Turn.refl _ W).drew).trans (HS1.out.trans HS2.out)⟩
      · have HS1 := Lib.hid hs1; have HQ1 := Lib.hid hq1
        clear hs1 hq1 d0 d1 d2 d3
        refine hK _ _ ?_
        clear hK K
        refine take_at 7 29 (.bool false) rfl rfl rfl (by kernel_rfl) (by kernel_rfl) (by kernel_rfl) (fun _ _ _ h => h) ⟨Or.inl ⟨by rfl, by intro w; go_simp⟩, fun _ => rfl⟩ ?_
        simp only [List.setIfInBounds_toArray, List.set_cons_zero, List.set_cons_succ]
        refine take_at 8 30 undef rfl rfl rfl (by kernel_rfl) (by kernel_rfl) (by kernel_rfl) (fun _ _ _ h => h) ⟨Or.inr ⟨by rfl, rfl⟩, fun _ => rfl⟩ ?_
        simp only [List.setIfInBounds_toArray, List.set_cons_zero, List.set_cons_succ]
        refine take_at 9 31 undef rfl rfl rfl (by kernel_rfl) (by kernel_rfl) (by kernel_rfl) (fun _ _ _ h => h) ⟨Or.inr ⟨by rfl, rfl⟩, fun _ => rfl⟩ ?_
        simp only [List.setIfInBounds_toArray, List.set_cons_zero, List.set_cons_succ]
        refine take_at 10 32 undef rfl rfl rfl (by kernel_rfl) (by kernel_rfl) (by kernel_rfl) (fun _ _ _ h => h) ⟨Or.inr ⟨by rfl, rfl⟩, fun _ => rfl⟩ ?_
        simp only [List.setIfInBounds_toArray, List.set_cons_zero, List.set_cons_succ]
        refine take_at 11 33 undef rfl rfl rfl (by kernel_rfl) (by kernel_rfl) (by kernel_rfl) (fun _ _ _ h => h) ⟨Or.inr ⟨by rfl, rfl⟩, fun _ => rfl⟩ ?_
        simp only [List.setIfInBounds_toArray, List.set_cons_zero, List.set_cons_succ]
        refine take_at 12 34 undef rfl rfl rfl (by kernel_rfl) (by kernel_rfl) (by kernel_rfl) (fun _ _ _ h => h) ⟨Or.inr ⟨by rfl, rfl⟩, fun _ => rfl⟩ ?_
        simp only [List.setIfInBounds_toArray, List.set_cons_zero, List.set_cons_succ]
        refine take_at 13 35 undef rfl rfl rfl (by kernel_rfl) (by kernel_rfl) (by kernel_rfl) (fun _ _ _ h => h) ⟨Or.inr ⟨by rfl, rfl⟩, fun _ => rfl⟩ ?_
        simp only [List.setIfInBounds_toArray, List.set_cons_zero, List.set_cons_succ]
        refine take_at 14 36 undef rfl rfl rfl (by kernel_rfl) (by kernel_rfl) (by kernel_rfl) (fun _ _ _ h => h) ⟨Or.inr ⟨by rfl, rfl⟩, fun _ => rfl⟩ ?_
        simp only [List.setIfInBounds_toArray, List.set_cons_zero, List.set_cons_succ]
        refine take_at 15 37 undef rfl rfl rfl (by kernel_rfl) (by kernel_rfl) (by kernel_rfl) (fun _ _ _ h => h) ⟨Or.inr ⟨by rfl, rfl⟩, fun _ => rfl⟩ ?_
        simp only [List.setIfInBounds_toArray, List.set_cons_zero, List.set_cons_succ]
        refine take_at 16 38 undef rfl rfl rfl (by kernel_rfl) (by kernel_rfl) (by kernel_rfl) (fun _ _ _ h => h) ⟨Or.inr ⟨by rfl, rfl⟩, fun _ => rfl⟩ ?_
        simp only [List.setIfInBounds_toArray, List.set_cons_zero, List.set_cons_succ]
        refine wpAnyIn_ready (rs := [17]) (by kernel_rfl) (by simp) (AllReadyIn.cons rfl (fun K hK => ?_) AllReadyIn.nil)
        rw [if_neg (by simp [Region.wanted, yielded])]
        refine ⟨fun f hf => trivial, ?_⟩
        refine hK _ _ ?_
        clear hK K
        refine take_at 18 40 (.bool false) rfl rfl rfl (by kernel_rfl) (by kernel_rfl) (by kernel_rfl) (fun _ _ _ h => h) ⟨Or.inl ⟨by rfl, by intro w; go_simp⟩, fun _ => rfl⟩ ?_
        simp only [List.setIfInBounds_toArray, List.set_cons_zero, List.set_cons_succ]
        refine take_at 19 41 (.bool false) rfl rfl rfl (by kernel_rfl) (by kernel_rfl) (by kernel_rfl) (fun _ _ _ h => h) ⟨Or.inl ⟨by rfl, by intro w; go_simp⟩, fun _ => rfl⟩ ?_
        simp only [List.setIfInBounds_toArray, List.set_cons_zero, List.set_cons_succ]
        refine take_at 20 42 undef rfl rfl rfl (by kernel_rfl) (by kernel_rfl) (by kernel_rfl) (fun _ _ _ h => h) ⟨Or.inr ⟨by rfl, rfl⟩, fun _ => rfl⟩ ?_
        simp only [List.setIfInBounds_toArray, List.set_cons_zero, List.set_cons_succ]
        refine take_at 21 43 undef rfl rfl rfl (by kernel_rfl) (by kernel_rfl) (by kernel_rfl) (fun _ _ _ h => h) ⟨Or.inr ⟨by rfl, rfl⟩, fun _ => rfl⟩ ?_
        simp only [List.setIfInBounds_toArray, List.set_cons_zero, List.set_cons_succ]
        refine take_at 22 44 undef rfl rfl rfl (by kernel_rfl) (by kernel_rfl) (by kernel_rfl) (fun _ _ _ h => h) ⟨Or.inr ⟨by rfl, rfl⟩, fun _ => rfl⟩ ?_
        simp only [List.setIfInBounds_toArray, List.set_cons_zero, List.set_cons_succ]
        refine take_at 23 45 undef rfl rfl rfl (by kernel_rfl) (by kernel_rfl) (by kernel_rfl) (fun _ _ _ h => h) ⟨Or.inr ⟨by rfl, rfl⟩, fun _ => rfl⟩ ?_
        simp only [List.setIfInBounds_toArray, List.set_cons_zero, List.set_cons_succ]
        refine take_at 24 46 undef rfl rfl rfl (by kernel_rfl) (by kernel_rfl) (by kernel_rfl) (fun _ _ _ h => h) ⟨Or.inr ⟨by rfl, rfl⟩, fun _ => rfl⟩ ?_
        simp only [List.setIfInBounds_toArray, List.set_cons_zero, List.set_cons_succ]
        refine take_at 25 47 undef rfl rfl rfl (by kernel_rfl) (by kernel_rfl) (by kernel_rfl) (fun _ _ _ h => h) ⟨Or.inr ⟨by rfl, rfl⟩, fun _ => rfl⟩ ?_
        simp only [List.setIfInBounds_toArray, List.set_cons_zero, List.set_cons_succ]
        refine wpAnyIn_ready (rs := [26]) (by kernel_rfl) (by simp) (AllReadyIn.cons rfl (fun K hK => ?_) AllReadyIn.nil)
        rw [if_neg (by simp [Region.wanted, yielded])]
        refine ⟨fun f hf => trivial, ?_⟩
        refine hK _ _ ?_
        clear hK K
        refine take_at 27 49 (.bool false) rfl rfl rfl (by kernel_rfl) (by kernel_rfl) (by kernel_rfl) (fun _ _ _ h => h) ⟨Or.inl ⟨by rfl, by intro w; go_simp⟩, fun _ => rfl⟩ ?_
        simp only [List.setIfInBounds_toArray, List.set_cons_zero, List.set_cons_succ]
        refine take_at 28 6 (.bool false) rfl rfl rfl (by kernel_rfl) (by kernel_rfl) (by kernel_rfl) (fun _ _ _ h => h) ⟨Or.inl ⟨by rfl, by intro w; go_simp⟩, fun _ => rfl⟩ ?_
        simp only [List.setIfInBounds_toArray, List.set_cons_zero, List.set_cons_succ]
        refine wpAnyIn_done (by kernel_rfl) ?_ _
        gi_wp2
        go_ret
        obtain ⟨q, hq, hx⟩ := HQ1.out
        exact .inr ⟨rfl, ⟨q, hq.trans (by rw [HKE.out]; exact ⟨(k, v) :: Kept ah tr, by simp⟩), hx⟩, (Still.turned (Turn.refl _ W).drew).trans HS1.out⟩

end Go.Proofs.Ytnapeckpjnbcgaa.omj
