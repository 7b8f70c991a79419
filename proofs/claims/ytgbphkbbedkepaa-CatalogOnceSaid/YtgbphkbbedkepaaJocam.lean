/-
  Texts laid one behind the other: R5f Id Hje Hke Iu Ij Hle R5g.
-/
import Derived.Test.YtgbphkbbedkepaaJocal
import Derived.Test.YtgbphkbbedkepaaJocai
import Derived.Stop.RegionWithIn
import Derived.Test.YtgbphkbbedkepaaJocaj
import Derived.Laws.EntriesVeiled

/-
  Stage 20: the program's Apply.
-/
namespace Go.Proofs.Ytgbphkbbedkepaa
open Go.RowKit

set_option maxRecDepth 100000

/-- The copy on which an edit is done: at block g2, of the entries o; all else is as it was. -/
structure Nx20 (w wr : World) (g2 : Nat) (o : List N20) : Prop where
  mem : CM20 wr (fun k => k = g2) g2 o
  new : w.heap.size ≤ g2
  turn : Turn (fun _ => False) w wr
theorem Nx20.later {w wr w' : World} {g2 : Nat} {o : List N20} (h : Nx20 w wr g2 o) (ht : Turn (fun _ => False) wr w') : Nx20 w w' g2 o := ⟨h.mem.later ht, h.new, h.turn.trans ht (fun _ _ f => f)⟩
theorem Nx20.next {w wr w' : World} {g2 : Nat} {o o2 : List N20} (h : Nx20 w wr g2 o) (hm : CM20 w' (fun k => k = g2) g2 o2) (ht : Turn (fun k => k = g2) wr w') : Nx20 w w' g2 o2 := ⟨hm, h.new, h.turn.fresh ht (fun k e => by rw [e]; exact h.new)⟩
theorem rest_at20 {α : Type} {l : List α} {i : Nat} {x : α} (h : l[i]? = some x) : l.drop i = x :: l.drop (i + 1) := by
  obtain ⟨h0, e⟩ := List.getElem?_eq_some_iff.1 h
  rw [List.drop_eq_getElem_cons h0, e]
theorem rest_end20 {α : Type} (l : List α) : l.drop l.length = [] := List.drop_length ..

set_option maxHeartbeats 8000000 in
theorem apply_any20 {w : World} {F : Nat → Prop} {g : Nat} {l : List N20} (dv pv : Value) (D : List T19) (C : List N20) (hm : CM20 w F g l) (hok : Ok20 l) (hl : l.length ≤ 5000) (hd : RdE ET20 w dv D) (hp : RdE EN20 w pv C) (hdn : D.length ≤ 30) (hpn : C.length ≤ 30) :
    Calls Try.prog 18 #[.pointer (some ⟨g, 0, none⟩), .agg #[dv, pv]] w fun e w' => Does20 CM20 w F g (apply20 l D C).1 (.int .i64 (apply20 l D C).2) e w' := by
  have HD := Lib.hid hd; have HPV := Lib.hid hp
  obtain ⟨A1, k1, rfl⟩ := hd.shape
  obtain ⟨A2, k2, rfl⟩ := hp.shape
  obtain ⟨N, hN⟩ : ∃ N, N = D.length := ⟨_, rfl⟩
  obtain ⟨P, hP⟩ : ∃ P, P = C.length := ⟨_, rfl⟩
  rw [← hN] at HD hdn ⊢
  rw [← hP] at HPV hpn ⊢
  have HN := Lib.hid hN; have HPN := Lib.hid hP
  obtain ⟨b, hb⟩ : ∃ b, b = w.heap.size := ⟨_, rfl⟩
  obtain ⟨w0, hw0⟩ : ∃ w0, w0 = w.alloc (.cells #[.slice A1 N k1, .slice A2 P k2] 48) := ⟨_, rfl⟩
  have HT0 : Hid (Turn (fun _ => False) w w0) := by rw [hw0]; exact (Turn.refl _ w).alloc _
  have HBE : Hid (Box w0 b 48 #[.slice A1 N k1, .slice A2 P k2]) := by rw [hw0, hb]; exact Box.new w _ _
  have HM := Lib.hid hm
  have HOK := Lib.hid hok; have HLN := Lib.hid hl
  have HCP := Lib.hid (copy_any20 (hm.later HT0.out))
  have HDF : Hid (∀ v w', (apply20 l D C).2 = v → v ≠ 0 → Turn (fun _ => False) w w' → Does20 CM20 w F g (apply20 l D C).1 (.int .i64 (apply20 l D C).2) (.returned (.int .i64 v)) w') := fun v w' h1 h2 ht =>
    ⟨by rw [h1], F, by rw [apply_bad20 (by rw [h1]; exact h2)]; exact hm.later ht, ht.mono (fun _ _ f => f.elim), fun k hk => .inl hk⟩
  have HAP : Hid (apply20 l D C = match gone20 l D with
    | none => (l, 11)
    | some o => if (come20 o C).2 ≠ 0 then (l, (come20 o C).2) else ((come20 o C).1, 0)) := rfl
  generalize apply20 l D C = R at *
  have HW0 := Lib.hid hw0; have HB := Lib.hid hb
  clear hm hok hl hd hp hN hP hw0 hb
  go_enter Try.func18, Try.ntmps18
  go_wp2_with fail
  rw [← HW0.out, ← HB.out]
  refine HCP.out.mono ?_
  rintro e w1 ⟨g2, F2, rfl, m1, t1, n1⟩
  have hF2 : F2 = (fun k => k = g2) := m1.1
  subst hF2
  have HNX : Hid (Nx20 w w1 g2 l) := ⟨m1, Nat.le_trans HT0.out.size (n1 g2 rfl), HT0.out.trans t1 (fun _ _ f => f)⟩
  have HBF : Hid (∀ W, Turn (fun _ => False) w W → Box W b 48 #[.slice A1 N k1, .slice A2 P k2] ∨ True) := fun _ _ => .inr trivial
  have HB1 := Lib.hid (HBE.out.turn t1 (fun f => f))
  have HBL : Hid (b < w1.heap.size ∧ b ≠ g2) := ⟨HB1.out.lt, fun e => by have h1 := n1 g2 rfl; have h2 := HBE.out.lt; omega⟩
  have c0 := HB1.out.cell 0
  have c1 := HB1.out.cell 1
  clear m1 t1 n1 HCP HBF
  go_wp2_with fail
  go_loopw [19] (fun x19 wr => ∃ (i : Nat) (o : List N20), x19 = .int .i64 (i : Int) ∧ i ≤ N ∧ gone20 o (D.drop i) = gone20 l D ∧ Ok20 o ∧ o.length ≤ 5000 ∧ Nx20 w wr g2 o ∧ Turn (fun k => k = g2) w1 wr) (fun x19 _ => N - (intOf x19).toNat)
  case atStart => exact ⟨0, l, rfl, Nat.zero_le _, rfl, HOK.out, HLN.out, HNX.out, Turn.refl _ _⟩
  case round =>
    obtain ⟨i, o, rfl, hi, hgo, hok, hol, hnx, htr⟩ := hrel
    have HGO := Lib.hid hgo; have HOO := Lib.hid hok; have HOL := Lib.hid hol; have HX := Lib.hid hnx; have HTR := Lib.hid htr
    clear hgo hok hol hnx htr c0 c1
    by_cases hlt : i < N
    · have hil : (i : Int) < N := by omega
      obtain ⟨p, hp⟩ : ∃ p, D[i]? = some p := ⟨_, List.getElem?_eq_getElem (by rw [← HN.out]; exact hlt)⟩
      obtain ⟨ad, rfl, hc⟩ := part_at20 HD.out hp
      obtain ⟨a0, a1⟩ := hc wr HX.out.turn
      have HRS := Lib.hid (rest_at20 hp)
      clear hc hp
      go_wp2_with fail
      obtain ⟨wp, hwp⟩ : ∃ wp, wp = wr.alloc (.cells (tcells19 p) 24) := ⟨_, rfl⟩
      have HXP : Hid (Nx20 w wp g2 o) := by rw [hwp]; exact HX.out.later ((Turn.refl _ wr).alloc _)
      have HTP : Hid (Turn (fun k => k = g2) w1 wp) := by rw [hwp]; exact HTR.out.trans (((Turn.refl (fun _ => False) wr).alloc _).mono (fun _ _ f => f.elim)) (fun _ _ e => e)
      rw [show wr.alloc (.cells (tcells19 p) 24) = wp from hwp.symm]
      clear hwp a0 a1
      refine (drop_any20 p HXP.out.mem HOO.out (Nat.le_trans HOL.out (by decide))).mono ?_
      rintro e w2 ⟨rfl, m2, t2⟩
      have HX2 := Lib.hid (HXP.out.next m2 t2)
      have HTR2 := Lib.hid (HTP.out.trans t2 (fun _ _ e => e))
      have HOK2 := Lib.hid (HOO.out.drop p)
      have HLE : Hid ((drop20 o p).1.length ≤ o.length) := List.length_filter_le _ _
      have HG := Lib.hid (gone_cons20 o p (D.drop (i + 1)))
      clear m2 t2
      generalize drop20 o p = r at *
      obtain ⟨o2, ok⟩ := r
      dsimp only at HX2 HOK2 HLE HG
      cases ok with
      | false =>
        have HNO : Hid (R.2 = 11) := by
          have h := HG.out
          rw [if_neg (by decide), ← HRS.out, HGO.out] at h
          have h2 := HAP.out
          rw [h] at h2
          show _ = _
          rw [h2]
        go_wp2
        go_ret
        exact HDF.out 11 _ HNO.out (by decide) HX2.out.turn
      | true =>
        have HGN : Hid (gone20 o2 (D.drop (i + 1)) = gone20 l D) := by
          have h := HG.out
          rw [if_pos rfl, ← HRS.out, HGO.out] at h
          exact h.symm
        go_wp2
        go_roundw
        case rel => exact ⟨i + 1, o2, by go_num, hlt, HGN.out, HOK2.out, Nat.le_trans HLE.out HOL.out, HX2.out, HTR2.out⟩
        case measure => simp [intOf]; omega
    · obtain rfl : i = N := by omega
      have HGD : Hid (gone20 l D = some o) := by
        have h := HGO.out
        rw [HN.out, rest_end20] at h
        exact h.symm
      have HA2 : Hid (R = if (come20 o C).2 ≠ 0 then (l, (come20 o C).2) else ((come20 o C).1, 0)) := by
        have h := HAP.out
        rw [HGD.out] at h
        exact h
      have hbx := HB1.out.turn HTR.out HBL.out.2
      have c0 := hbx.cell 0
      have c1 := hbx.cell 1
      clear HAP hbx
      go_wp2_with fail
      clear c0 c1
      obtain ⟨wm, hwm⟩ : ∃ wm, wm = wr := ⟨_, rfl⟩
      subst hwm
      go_loopw [33] (fun x33 wv => ∃ (j : Nat) (o2 : List N20), x33 = .int .i64 (j : Int) ∧ j ≤ P ∧ come20 o2 (C.drop j) = come20 o C ∧ Ok20 o2 ∧ o2.length ≤ o.length + j ∧ Nx20 w wv g2 o2) (fun x33 _ => P - (intOf x33).toNat)
      case atStart => exact ⟨0, o, rfl, Nat.zero_le _, rfl, HOO.out, Nat.le_refl _, HX.out⟩
      case round =>
        obtain ⟨j, o2, rfl, hj, hco, hok2, hol2, hnx2⟩ := hrel
        have HCO := Lib.hid hco; have HOO2 := Lib.hid hok2; have HOL2 := Lib.hid hol2; have HX2 := Lib.hid hnx2
        clear hco hok2 hol2 hnx2
        by_cases hlt2 : j < P
        · have hjl : (j : Int) < P := by omega
          have HL6 : Hid (o2.length ≤ 6000) := by show _ ≤ _; have := HOL2.out; have := HOL.out; omega
          obtain ⟨e, he⟩ : ∃ e, C[j]? = some e := ⟨_, List.getElem?_eq_getElem (by rw [← HPN.out]; exact hlt2)⟩
          obtain ⟨ad, rfl, hc⟩ := ent_at20 HPV.out he
          obtain ⟨a0, a1, a2, a3, a4, a5⟩ := hc wr HX2.out.turn
          have HRS := Lib.hid (rest_at20 he)
          clear hc he
          go_wp2_with fail
          obtain ⟨wp, hwp⟩ : ∃ wp, wp = wr.alloc (.cells (ecells20 e) 32) := ⟨_, rfl⟩
          have HXP : Hid (Nx20 w wp g2 o2) := by rw [hwp]; exact HX2.out.later ((Turn.refl _ wr).alloc _)
          rw [show wr.alloc (.cells (ecells20 e) 32) = wp from hwp.symm]
          clear hwp a0 a1 a2 a3 a4 a5
          refine (put_any20 e HXP.out.mem HOO2.out HL6.out).mono ?_
          rintro e' w2 ⟨rfl, m2, t2⟩
          have HXN := Lib.hid (HXP.out.next m2 t2)
          have HPK : Hid ((put20 o2 e).2 = 0 → Ok20 (put20 o2 e).1 ∧ (put20 o2 e).1.length = o2.length + 1) := fun h0 => by
            obtain ⟨k1, k2, k3, k4⟩ := put_ok20 HOO2.out h0
            exact ⟨k1, by rw [k4]; exact ins_len20 _ _⟩
          have HG := Lib.hid (come_cons20 o2 e (C.drop (j + 1)))
          clear m2 t2
          generalize put20 o2 e = r at *
          obtain ⟨o3, f⟩ := r
          dsimp only at HXN HPK HG
          by_cases hf : f = 0
          · subst hf
            have HCN : Hid (come20 o3 (C.drop (j + 1)) = come20 o C) := by
              have h := HG.out
              rw [if_neg (by decide), ← HRS.out, HCO.out] at h
              exact h.symm
            have HXM : Hid (Nx20 w w2 g2 o3) := by
              have h := HXN.out
              rw [if_pos rfl] at h
              exact h
            have HPL : Hid (Ok20 o3 ∧ o3.length = o2.length + 1) := HPK.out rfl
            clear HXN HG HPK
            go_wp2
            go_roundw
            case rel => exact ⟨j + 1, o3, by go_num, hlt2, HCN.out, HPL.out.1, by have h1 := HPL.out.2; have h2 := HOL2.out; omega, HXM.out⟩
            case measure => simp [intOf]; omega
          · have HNO : Hid (R.2 = f) := by
              have h := HG.out
              rw [if_pos hf, ← HRS.out, HCO.out] at h
              have h2 := HA2.out
              rw [h, if_pos hf] at h2
              show _ = _
              rw [h2]
            have hfb : (f != 0) = true := by simp [bne, hf]
            have HFN := Lib.hid hf
            clear hf
            go_wp2
            go_ret
            exact HDF.out f _ HNO.out HFN.out HXN.out.turn
        · obtain rfl : j = P := by omega
          have HR2 : Hid (R = (o2, 0)) := by
            have h := HCO.out
            rw [HPN.out, rest_end20] at h
            have h2 := HA2.out
            rw [← h] at h2
            exact h2
          obtain ⟨t2, x, A, hne, hb2, hx, hfl⟩ := HX2.out.mem.mp.out
          have s0 : wr.cell? ⟨g2, 0, none⟩ = some (.pointer A) := hb2.cell 0
          obtain ⟨t3, x3, A3, hne3, hb3, -, -⟩ := (HM.out.later HX2.out.turn).mp.out
          have s1 : wr.cell? ⟨g, 0, none⟩ = some (.pointer A3) := hb3.cell 0
          have s2 := hb3.free 0
          have HST := Lib.hid (HM.out.mp.set HX2.out.turn hx hfl HX2.out.mem.mp.up)
          clear hne hb2 hx hfl hne3 hb3
          go_wp2
          go_ret
          refine ⟨by rw [HR2.out]; rfl, F, ?_, ?_, fun k hk => .inl hk⟩
          · rw [HR2.out]
            exact ⟨HM.out.1, HST.out.1⟩
          · rw [HM.out.1]
            exact HST.out.2

end Go.Proofs.Ytgbphkbbedkepaa

/-
  A region that draws its order, walked by hand: an operation is taken first, the activation written out.
-/
namespace Go.Proofs.Ytgbphkbbedkepaa
open Go.RowKit

theorem take_at {F : Fence} {n : Nat} {P : Program} {ops : Array Oper} {Q : Exit → Act → World → Prop} {md : Region.Mode} (i d : Nat) {oi : Oper} (v : Value) {fuel : Nat} {listed : Array Bool} {ts : Array Value} {ds : List Deferred} {w : World}
    (hro : F.round = none) (hi : ops[i]? = some oi) (hd : oi.dst = some d)
    (hs : Region.noSelect ops = true) (hf : Region.free md ops listed i = true) (hr : (Region.ready md ops listed).contains i = true)
    (hQ : ∀ c (a : Act) w, Q (.panic c) (a.put oi.dst v) w → Q (.panic c) a w) (hy : YieldsFenced P ops oi v { tmps := ts, defers := ds })
    (h : wpAnyIn F n P md ops Q fuel (listed.setIfInBounds i true) { tmps := ts.setIfInBounds d v, defers := ds } w) : wpAnyIn F n P md ops Q (fuel + 1) listed { tmps := ts, defers := ds } w := by
  refine wpAnyIn_take hro hi hs hf hr hQ hy ?_
  rw [hd]
  exact h

end Go.Proofs.Ytgbphkbbedkepaa

/-
  A tree's keys, rising, handed to a round each, as far as it wants them (keys int64, values api.Entry).
-/
namespace Go.Proofs.Ytgbphkbbedkepaa.ome
open Go.RowKit Go.Shelf
attribute [local go_sem] Oper.semAt_some wide_fn

/-- A pair, handed to a round. -/
abbrev prs (x : Int × N20) : Array Value := #[(.int .i64 x.1), (ev20 x.2)]
/-- What a tree has to tell: what is not ahead. -/
def Kept (ah : Int → Bool) (x : Tr Int N20) : List (Int × N20) := x.flat.filter fun p => !ah p.1
/-- What is ahead stands ahead. -/
def Falls (ah : Int → Bool) : Prop := ∀ a b, ltI a b = true → ah b = true → ah a = true
theorem kept_ahead {ah : Int → Bool} (hf : Falls ah) {l r : Tr Int N20} {k : Int} {v : N20} (hu : Up ltI (Tr.node l k v r).flat) (hk : ah k = true) : Kept ah (.node l k v r) = Kept ah r := by
  obtain ⟨_, _, h3⟩ := up_parts hu
  unfold Kept
  rw [flat_node, List.filter_append, List.filter_cons, if_neg (by simp [hk])]
  have : l.flat.filter (fun p => !ah p.1) = [] := by
    rw [List.filter_eq_nil_iff]
    intro p hp
    simp [hf _ _ (h3 p hp) hk]
  rw [this, List.nil_append]
theorem kept_node {ah : Int → Bool} {l r : Tr Int N20} {k : Int} {v : N20} (hk : ah k = false) : Kept ah (.node l k v r) = Kept ah l ++ (k, v) :: Kept ah r := by
  unfold Kept
  rw [flat_node, List.filter_append, List.filter_cons, if_pos (by simp [hk])]

/-- A tree that lay at W0, in a world behind rounds. -/
structure Base (S : Nat → Prop) (W0 : World) : Prop where
  far : ∀ g cs, Box W0 g 89 cs → ¬ S g
theorem Base.nd {S : Nat → Prop} {W0 W : World} (h : Base S W0) (ht : Turn S W0 W) {x : Tr Int N20} {p : Value} (hx : Nd W0 x p) : Nd W x p := Nd.turn ht h.far hx
theorem Base.one {S : Nat → Prop} {W0 W : World} (h : Base S W0) (ht : Turn S W0 W) {g : Nat} {k : Int} {v : N20} {pl pr : Value} {n : Nat} (hx : One W0 g k v pl pr n) : One W g k v pl pr n := Box.turn hx ht (h.far g _ hx)

/-- Behind a tree that was told, or a round that wanted no more. -/
def Told (l : Nat) (S : Nat → Prop) (W0 W : World) (J Jx : List (Int × N20) → World → Prop) (L : List (Int × N20)) (e : Ending) (W' : World) : Prop :=
  (e = .returned (.bool true) ∧ J L W' ∧ Turn S W0 W' ∧ Still (l + 1) W W') ∨ (e = .returned (.bool false) ∧ (∃ q, q <+: L ∧ Jx q W') ∧ Still (l + 1) W W')

/-- What a round, and what says what is ahead, promise. -/
structure Rounds (l : Nat) (fa : Nat) (caps : Array Value) (ah : Int → Bool) (S : Nat → Prop) (W0 : World) (J Jx : List (Int × N20) → World → Prop) (T : List (Int × N20)) : Prop where
  draws : ∀ pre W, J pre W → J pre W.drew
  enters : ∀ args w, (callFunc fa args).run Try.prog w = .ok (.enter fa args) w
  ahead : ∀ key W, Turn S W0 W → Calls Try.prog fa (#[(.int .i64 key)] ++ caps) W fun e W' => e = .returned (.bool (ah key)) ∧ W = W'
  yield : ∀ pre x W, J pre W → Turn S W0 W → pre ++ [x] <+: T → YieldAt Fence.wide 0 Try.prog l (prs x) W fun e W' => (e = .returned (.bool true) ∧ J (pre ++ [x]) W' ∧ Turn S W W' ∧ Still (l + 1) W W') ∨ (e = .returned (.bool false) ∧ Jx (pre ++ [x]) W' ∧ Still (l + 1) W W')

set_option maxRecDepth 100000 in
set_option maxHeartbeats 2000000 in
theorem each_any (l fa : Nat) (caps : Array Value) (ah : Int → Bool) (S : Nat → Prop) (W0 : World) (J Jx : List (Int × N20) → World → Prop) (T : List (Int × N20)) (hR : Rounds l fa caps ah S W0 J Jx T) (hB : Base S W0) (hfa : Falls ah) (x : Tr Int N20) :
    ∀ (p : Value) (pre : List (Int × N20)) (W : World), Nd W0 x p → Turn S W0 W → J pre W → Up ltI x.flat → pre ++ Kept ah x <+: T →
    CallsIn Fence.wide 0 Try.prog 78 #[p, .func (.func fa) #[] caps, .func (.yield l) #[] #[]] W fun e W' => Told l S W0 W J Jx (pre ++ Kept ah x) e W' := by
  induction x with
  | nil =>
    intro p pre W hx ht hj _ _
    obtain rfl : p = .pointer none := hx
    refine callsIn_of_wp Try.func78 rfl trivial ?_ rfl
    simp only [Try.ntmps78, List.size_toArray, List.length_cons, List.length_nil, Nat.reduceAdd, Nat.reduceSub, Array.replicate_succ, Array.replicate_zero, List.push_toArray, List.append_toArray, List.nil_append, List.cons_append]
    gi_wp2
    go_ret
    exact .inl ⟨rfl, by show J (pre ++ []) W; rw [List.append_nil]; exact hj, ht, Still.refl _ _⟩
  | node tl k v tr ihl ihr =>
    intro p pre W hx ht hj hu hT
    obtain ⟨g, pl, pr, rfl, hg, hl, hr⟩ := nd_node hx
    have HG : Hid (∀ W, Turn S W0 W → One W g k v pl pr (tl.cnt + tr.cnt + 1)) := fun W ht => hB.one ht hg
    have HL := Lib.hid hl; have HR := Lib.hid hr; have HRR := Lib.hid hR; have HJ := Lib.hid hj; have HT := Lib.hid ht; have HPT := Lib.hid hT
    obtain ⟨hu1, hu2, _⟩ := up_parts hu
    obtain ⟨pl, rfl⟩ := hl.shape
    obtain ⟨pr, rfl⟩ := hr.shape
    obtain ⟨c0, ⟨cv1, cv2, cv3, cv4, cv5, cv6⟩, c2, c3, -⟩ := (HG.out W ht).cells
    have HA := Lib.hid (hR.ahead k W ht)
    have HE := hR.enters
    cases hk : ah k with
    | true =>
      rw [hk] at HA
      have HKE := Lib.hid (kept_ahead hfa hu hk)
      rw [HKE.out] at HPT ⊢
      have HI : Hid (∀ W, Turn S W0 W → J pre W → CallsIn Fence.wide 0 Try.prog 78 #[.pointer pr, .func (.func fa) #[] caps, .func (.yield l) #[] #[]] W fun e W' => Told l S W0 W J Jx (pre ++ Kept ah tr) e W') := fun W ht hj => ihr _ pre W HR.out ht hj hu2 HPT.out
      clear hk hu hu1 hu2 hx hg hl hr hR hj ht hT ihl ihr hB
      refine callsIn_of_wp Try.func78 rfl trivial ?_ rfl
      simp only [Try.ntmps78, List.size_toArray, List.length_cons, List.length_nil, Nat.reduceAdd, Nat.reduceSub, Array.replicate_succ, Array.replicate_zero, List.push_toArray, List.append_toArray, List.nil_append, List.cons_append]
      gi_wp2_with fail
      refine ⟨rfl, (callsIn_wide.2 HA.out).mono ?_⟩
      rintro e w' ⟨rfl, rfl⟩
      gi_wp2_with fail
      refine ⟨rfl, (HI.out W HT.out HJ.out).mono ?_⟩
      rintro e w' (⟨rfl, hh⟩ | ⟨rfl, hh⟩)
      · have HH := Lib.hid hh; clear hh
        gi_wp2
        go_ret
        exact .inl ⟨rfl, HH.out⟩
      · have HH := Lib.hid hh; clear hh
        gi_wp2
        go_ret
        exact .inr ⟨rfl, HH.out⟩
    | false =>
      rw [hk] at HA
      have HKE := Lib.hid (kept_node (l := tl) (r := tr) (v := v) hk)
      have HI : Hid (∀ W, Turn S W0 W → J pre W → CallsIn Fence.wide 0 Try.prog 78 #[.pointer pl, .func (.func fa) #[] caps, .func (.yield l) #[] #[]] W fun e W' => Told l S W0 W J Jx (pre ++ Kept ah tl) e W') :=
        fun W ht hj => ihl _ pre W HL.out ht hj hu1 ((List.prefix_append_right_inj pre).2 (by rw [HKE.out]; exact List.prefix_append _ _) |>.trans HPT.out)
      have HI2 : Hid (∀ W, Turn S W0 W → J (pre ++ Kept ah tl ++ [(k, v)]) W → CallsIn Fence.wide 0 Try.prog 78 #[.pointer pr, .func (.func fa) #[] caps, .func (.yield l) #[] #[]] W fun e W' => Told l S W0 W J Jx (pre ++ Kept ah (Tr.node tl k v tr)) e W') := fun W ht hj => by
        have h := ihr _ (pre ++ Kept ah tl ++ [(k, v)]) W HR.out ht hj hu2
        have e : pre ++ Kept ah tl ++ [(k, v)] ++ Kept ah tr = pre ++ Kept ah (Tr.node tl k v tr) := by rw [HKE.out]; simp
        rw [e] at h
        exact h HPT.out
      have HY : Hid (∀ W, Turn S W0 W → J (pre ++ Kept ah tl) W → YieldAt Fence.wide 0 Try.prog l #[(.int .i64 k), (ev20 v)] W fun e W' => (e = .returned (.bool true) ∧ J (pre ++ Kept ah tl ++ [(k, v)]) W' ∧ Turn S W W' ∧ Still (l + 1) W W') ∨ (e = .returned (.bool false) ∧ Jx (pre ++ Kept ah tl ++ [(k, v)]) W' ∧ Still (l + 1) W W')) :=
        fun W ht hj => HRR.out.yield _ (k, v) W hj ht (List.IsPrefix.trans ⟨Kept ah tr, by rw [HKE.out]; simp⟩ HPT.out)
      clear hk hu hu1 hu2 hx hg hl hr hR hj ht hT ihl ihr hB
      refine callsIn_of_wp Try.func78 rfl trivial ?_ rfl
      simp only [Try.ntmps78, List.size_toArray, List.length_cons, List.length_nil, Nat.reduceAdd, Nat.reduceSub, Array.replicate_succ, Array.replicate_zero, List.push_toArray, List.append_toArray, List.nil_append, List.cons_append]
      gi_wp2_with fail
      refine ⟨rfl, (callsIn_wide.2 HA.out).mono ?_⟩
      rintro e w' ⟨rfl, rfl⟩
      gi_wp2_with fail
      obtain ⟨d0, ⟨dv1, dv2, dv3, dv4, dv5, dv6⟩, d2, d3, -⟩ := (HG.out _ HT.out.drew).cells
      refine wpIn_region_any (by kernel_rfl) ?_
      change wpAnyIn _ _ _ _ _ _ _ _ _ (World.drew _)
      refine take_at 0 22 (.pointer (some ⟨g, 0, none⟩)) rfl rfl rfl (by kernel_rfl) (by kernel_rfl) (by kernel_rfl) (fun _ _ _ h => h) ⟨Or.inl ⟨by rfl, by intro w; go_simp⟩, fun _ => rfl⟩ ?_
      simp only [List.setIfInBounds_toArray, List.set_cons_zero, List.set_cons_succ]
      refine take_at 1 23 (.pointer (some ⟨g, 0, none⟩)) rfl rfl rfl (by kernel_rfl) (by kernel_rfl) (by kernel_rfl) (fun _ _ _ h => h) ⟨Or.inl ⟨by rfl, by intro w; go_simp⟩, fun _ => rfl⟩ ?_
      simp only [List.setIfInBounds_toArray, List.set_cons_zero, List.set_cons_succ]
      refine take_at 2 24 (.pointer (some ⟨g, 7, none⟩)) rfl rfl rfl (by kernel_rfl) (by kernel_rfl) (by kernel_rfl) (fun _ _ _ h => h) ⟨Or.inl ⟨by rfl, by intro w; go_simp⟩, fun _ => rfl⟩ ?_
      simp only [List.setIfInBounds_toArray, List.set_cons_zero, List.set_cons_succ]
      refine take_at 4 26 (.func (.func fa) #[] caps) rfl rfl rfl (by kernel_rfl) (by kernel_rfl) (by kernel_rfl) (fun _ _ _ h => h) ⟨Or.inl ⟨by rfl, by intro w; go_simp⟩, fun _ => rfl⟩ ?_
      simp only [List.setIfInBounds_toArray, List.set_cons_zero, List.set_cons_succ]
      refine take_at 5 27 (.func (.yield l) #[] #[]) rfl rfl rfl (by kernel_rfl) (by kernel_rfl) (by kernel_rfl) (fun _ _ _ h => h) ⟨Or.inl ⟨by rfl, by intro w; go_simp⟩, fun _ => rfl⟩ ?_
      simp only [List.setIfInBounds_toArray, List.set_cons_zero, List.set_cons_succ]
      refine wpAnyIn_ready (rs := [3]) (by kernel_rfl) (by simp) (AllReadyIn.cons rfl (fun K hK => ?_) AllReadyIn.nil)
      go_simp
      refine hK _ _ ?_
      clear hK K
      refine wpAnyIn_ready (rs := [6]) (by kernel_rfl) (by simp) (AllReadyIn.cons rfl (fun K hK => ?_) AllReadyIn.nil)
      go_simp
      refine ⟨rfl, (HI.out _ HT.out.drew (HRR.out.draws _ _ HJ.out)).mono ?_⟩
      rintro e W1 (⟨rfl, hj1, ht1, hs1⟩ | ⟨rfl, hq1, hs1⟩)
      · have HS1 := Lib.hid hs1; have HT1 := Lib.hid ht1
        obtain ⟨e0, ⟨ev1, ev2, ev3, ev4, ev5, ev6⟩, e2, e3, -⟩ := (HG.out _ ht1).cells
        obtain ⟨fn, tm, asg, bo, hy, hrr⟩ := HY.out W1 ht1 hj1
        have HRO := Lib.hid hrr
        clear hj1 ht1 hs1 hrr d0 dv1 dv2 dv3 dv4 dv5 dv6 d2 d3
        refine hK _ _ ?_
        clear hK K
        refine take_at 7 29 (.bool true) rfl rfl rfl (by kernel_rfl) (by kernel_rfl) (by kernel_rfl) (fun _ _ _ h => h) ⟨Or.inl ⟨by rfl, by intro w; go_simp⟩, fun _ => rfl⟩ ?_
        simp only [List.setIfInBounds_toArray, List.set_cons_zero, List.set_cons_succ]
        refine take_at 8 30 (.func (.yield l) #[] #[]) rfl rfl rfl (by kernel_rfl) (by kernel_rfl) (by kernel_rfl) (fun _ _ _ h => h) ⟨Or.inl ⟨by rfl, by intro w; go_simp⟩, fun _ => rfl⟩ ?_
        simp only [List.setIfInBounds_toArray, List.set_cons_zero, List.set_cons_succ]
        refine take_at 9 31 (.pointer (some ⟨g, 0, none⟩)) rfl rfl rfl (by kernel_rfl) (by kernel_rfl) (by kernel_rfl) (fun _ _ _ h => h) ⟨Or.inl ⟨by rfl, by intro w; go_simp⟩, fun _ => rfl⟩ ?_
        simp only [List.setIfInBounds_toArray, List.set_cons_zero, List.set_cons_succ]
        refine take_at 10 32 (.pointer (some ⟨g, 0, none⟩)) rfl rfl rfl (by kernel_rfl) (by kernel_rfl) (by kernel_rfl) (fun _ _ _ h => h) ⟨Or.inl ⟨by rfl, by intro w; go_simp⟩, fun _ => rfl⟩ ?_
        simp only [List.setIfInBounds_toArray, List.set_cons_zero, List.set_cons_succ]
        refine take_at 11 33 (.pointer (some ⟨g, 0, none⟩)) rfl rfl rfl (by kernel_rfl) (by kernel_rfl) (by kernel_rfl) (fun _ _ _ h => h) ⟨Or.inl ⟨by rfl, by intro w; go_simp⟩, fun _ => rfl⟩ ?_
        simp only [List.setIfInBounds_toArray, List.set_cons_zero, List.set_cons_succ]
        refine take_at 13 35 (.pointer (some ⟨g, 0, none⟩)) rfl rfl rfl (by kernel_rfl) (by kernel_rfl) (by kernel_rfl) (fun _ _ _ h => h) ⟨Or.inl ⟨by rfl, by intro w; go_simp⟩, fun _ => rfl⟩ ?_
        simp only [List.setIfInBounds_toArray, List.set_cons_zero, List.set_cons_succ]
        refine take_at 14 36 (.pointer (some ⟨g, 0, none⟩)) rfl rfl rfl (by kernel_rfl) (by kernel_rfl) (by kernel_rfl) (fun _ _ _ h => h) ⟨Or.inl ⟨by rfl, by intro w; go_simp⟩, fun _ => rfl⟩ ?_
        simp only [List.setIfInBounds_toArray, List.set_cons_zero, List.set_cons_succ]
        refine take_at 15 37 (.pointer (some ⟨g, 1, none⟩)) rfl rfl rfl (by kernel_rfl) (by kernel_rfl) (by kernel_rfl) (fun _ _ _ h => h) ⟨Or.inl ⟨by rfl, by intro w; go_simp⟩, fun _ => rfl⟩ ?_
        simp only [List.setIfInBounds_toArray, List.set_cons_zero, List.set_cons_succ]
        refine wpAnyIn_ready (rs := [12, 16]) (by kernel_rfl) (by simp) (AllReadyIn.cons rfl (fun K hK => ?_) (AllReadyIn.cons rfl (fun K hK => ?_) AllReadyIn.nil))
        · go_simp
          refine hK _ _ ?_
          clear hK K
          refine wpAnyIn_ready (rs := [16]) (by kernel_rfl) (by simp) (AllReadyIn.cons rfl (fun K hK => ?_) AllReadyIn.nil)
          go_simp
          refine hK _ _ ?_
          clear hK K
          refine wpAnyIn_ready (rs := [17]) (by kernel_rfl) (by simp) (AllReadyIn.cons rfl (fun K hK => ?_) AllReadyIn.nil)
          go_simp
          refine ⟨rfl, HRO.out.mono ?_⟩
          rintro e W2 (⟨rfl, hj2, ht2, hs2⟩ | ⟨rfl, hx2, hs2⟩)
          · have HS2 := Lib.hid hs2; have HT2 := Lib.hid (HT1.out.trans ht2 (fun _ _ s => s)); have HJ2 := Lib.hid hj2
            obtain ⟨f0, ⟨fv1, fv2, fv3, fv4, fv5, fv6⟩, f2, f3, -⟩ := (HG.out _ HT2.out).cells
            clear hs2 ht2 hj2 e0 ev1 ev2 ev3 ev4 ev5 ev6 e2 e3
            refine hK _ _ ?_
            clear hK K
            refine take_at 18 40 (.bool true) rfl rfl rfl (by kernel_rfl) (by kernel_rfl) (by kernel_rfl) (fun _ _ _ h => h) ⟨Or.inl ⟨by rfl, by intro w; go_simp⟩, fun _ => rfl⟩ ?_
            simp only [List.setIfInBounds_toArray, List.set_cons_zero, List.set_cons_succ]
            refine take_at 19 41 (.bool true) rfl rfl rfl (by kernel_rfl) (by kernel_rfl) (by kernel_rfl) (fun _ _ _ h => h) ⟨Or.inl ⟨by rfl, by intro w; go_simp⟩, fun _ => rfl⟩ ?_
            simp only [List.setIfInBounds_toArray, List.set_cons_zero, List.set_cons_succ]
            refine take_at 20 42 (.pointer (some ⟨g, 0, none⟩)) rfl rfl rfl (by kernel_rfl) (by kernel_rfl) (by kernel_rfl) (fun _ _ _ h => h) ⟨Or.inl ⟨by rfl, by intro w; go_simp⟩, fun _ => rfl⟩ ?_
            simp only [List.setIfInBounds_toArray, List.set_cons_zero, List.set_cons_succ]
            refine take_at 21 43 (.pointer (some ⟨g, 0, none⟩)) rfl rfl rfl (by kernel_rfl) (by kernel_rfl) (by kernel_rfl) (fun _ _ _ h => h) ⟨Or.inl ⟨by rfl, by intro w; go_simp⟩, fun _ => rfl⟩ ?_
            simp only [List.setIfInBounds_toArray, List.set_cons_zero, List.set_cons_succ]
            refine take_at 22 44 (.pointer (some ⟨g, 8, none⟩)) rfl rfl rfl (by kernel_rfl) (by kernel_rfl) (by kernel_rfl) (fun _ _ _ h => h) ⟨Or.inl ⟨by rfl, by intro w; go_simp⟩, fun _ => rfl⟩ ?_
            simp only [List.setIfInBounds_toArray, List.set_cons_zero, List.set_cons_succ]
            refine take_at 24 46 (.func (.func fa) #[] caps) rfl rfl rfl (by kernel_rfl) (by kernel_rfl) (by kernel_rfl) (fun _ _ _ h => h) ⟨Or.inl ⟨by rfl, by intro w; go_simp⟩, fun _ => rfl⟩ ?_
            simp only [List.setIfInBounds_toArray, List.set_cons_zero, List.set_cons_succ]
            refine take_at 25 47 (.func (.yield l) #[] #[]) rfl rfl rfl (by kernel_rfl) (by kernel_rfl) (by kernel_rfl) (fun _ _ _ h => h) ⟨Or.inl ⟨by rfl, by intro w; go_simp⟩, fun _ => rfl⟩ ?_
            simp only [List.setIfInBounds_toArray, List.set_cons_zero, List.set_cons_succ]
            refine wpAnyIn_ready (rs := [23]) (by kernel_rfl) (by simp) (AllReadyIn.cons rfl (fun K hK => ?_) AllReadyIn.nil)
            go_simp
            refine hK _ _ ?_
            clear hK K
            refine wpAnyIn_ready (rs := [26]) (by kernel_rfl) (by simp) (AllReadyIn.cons rfl (fun K hK => ?_) AllReadyIn.nil)
            go_simp
            refine ⟨rfl, (HI2.out W2 HT2.out HJ2.out).mono ?_⟩
            rintro e W3 (⟨rfl, hj3, ht3, hs3⟩ | ⟨rfl, hq3, hs3⟩)
            · have HS3 := Lib.hid hs3; have HT3 := Lib.hid ht3; have HJ3 := Lib.hid hj3
              clear hs3 ht3 hj3
              refine hK _ _ ?_
              clear hK K
              refine take_at 27 49 (.bool true) rfl rfl rfl (by kernel_rfl) (by kernel_rfl) (by kernel_rfl) (fun _ _ _ h => h) ⟨Or.inl ⟨by rfl, by intro w; go_simp⟩, fun _ => rfl⟩ ?_
              simp only [List.setIfInBounds_toArray, List.set_cons_zero, List.set_cons_succ]
              refine take_at 28 6 (.bool true) rfl rfl rfl (by kernel_rfl) (by kernel_rfl) (by kernel_rfl) (fun _ _ _ h => h) ⟨Or.inl ⟨by rfl, by intro w; go_simp⟩, fun _ => rfl⟩ ?_
              simp only [List.setIfInBounds_toArray, List.set_cons_zero, List.set_cons_succ]
              refine wpAnyIn_done (by kernel_rfl) ?_ _
              gi_wp2
              go_ret
              exact .inl ⟨rfl, HJ3.out, HT3.out, (Still.turned (Turn.refl _ W).drew).trans (HS1.out.trans (HS2.out.trans HS3.out))⟩
            · have HS3 := Lib.hid hs3; have HQ3 := Lib.hid hq3
              clear hs3 hq3
              refine hK _ _ ?_
              clear hK K
              refine take_at 27 49 (.bool false) rfl rfl rfl (by kernel_rfl) (by kernel_rfl) (by kernel_rfl) (fun _ _ _ h => h) ⟨Or.inl ⟨by rfl, by intro w; go_simp⟩, fun _ => rfl⟩ ?_
              simp only [List.setIfInBounds_toArray, List.set_cons_zero, List.set_cons_succ]
              refine take_at 28 6 (.bool false) rfl rfl rfl (by kernel_rfl) (by kernel_rfl) (by kernel_rfl) (fun _ _ _ h => h) ⟨Or.inl ⟨by rfl, by intro w; go_simp⟩, fun _ => rfl⟩ ?_
              simp only [List.setIfInBounds_toArray, List.set_cons_zero, List.set_cons_succ]
              refine wpAnyIn_done (by kernel_rfl) ?_ _
              gi_wp2
              go_ret
              exact .inr ⟨rfl, HQ3.out, (Still.turned (Turn.refl _ W).drew).trans (HS1.out.trans (HS2.out.trans HS3.out))⟩
          · have HS2 := Lib.hid hs2; have HX2 := Lib.hid hx2
            clear hs2 hx2
            refine hK _ _ ?_
            clear hK K
            refine take_at 18 40 (.bool false) rfl rfl rfl (by kernel_rfl) (by kernel_rfl) (by kernel_rfl) (fun _ _ _ h => h) ⟨Or.inl ⟨by rfl, by intro w; go_simp⟩, fun _ => rfl⟩ ?_
            simp only [List.setIfInBounds_toArray, List.set_cons_zero, List.set_cons_succ]
            refine take_at 19 41 (.bool false) rfl rfl rfl (by kernel_rfl) (by kernel_rfl) (by kernel_rfl) (fun _ _ _ h => h) ⟨Or.inl ⟨by rfl, by intro w; go_simp⟩, fun _ => rfl⟩ ?_
            simp only [List.setIfInBounds_toArray, List.set_cons_zero, List.set_cons_succ]
            refine take_at 20 42 undef rfl rfl rfl (by kernel_rfl) (by kernel_rfl) (by kernel_rfl) (fun _ _ _ h => h) ⟨Or.inr ⟨by rfl, rfl⟩, fun _ => rfl⟩ ?_
            simp only [List.setIfInBounds_toArray, List.set_cons_zero, List.set_cons_succ]
            refine take_at 21 43 undef rfl rfl rfl (by kernel_rfl) (by kernel_rfl) (by kernel_rfl) (fun _ _ _ h => h) ⟨Or.inr ⟨by rfl, rfl⟩, fun _ => rfl⟩ ?_
            simp only [List.setIfInBounds_toArray, List.set_cons_zero, List.set_cons_succ]
            refine take_at 22 44 undef rfl rfl rfl (by kernel_rfl) (by kernel_rfl) (by kernel_rfl) (fun _ _ _ h => h) ⟨Or.inr ⟨by rfl, rfl⟩, fun _ => rfl⟩ ?_
            simp only [List.setIfInBounds_toArray, List.set_cons_zero, List.set_cons_succ]
            refine take_at 23 45 undef rfl rfl rfl (by kernel_rfl) (by kernel_rfl) (by kernel_rfl) (fun _ _ _ h => h) ⟨Or.inr ⟨by rfl, rfl⟩, fun _ => rfl⟩ ?_
            simp only [List.setIfInBounds_toArray, List.set_cons_zero, List.set_cons_succ]
            refine take_at 24 46 undef rfl rfl rfl (by kernel_rfl) (by kernel_rfl) (by kernel_rfl) (fun _ _ _ h => h) ⟨Or.inr ⟨by rfl, rfl⟩, fun _ => rfl⟩ ?_
            simp only [List.setIfInBounds_toArray, List.set_cons_zero, List.set_cons_succ]
            refine take_at 25 47 undef rfl rfl rfl (by kernel_rfl) (by kernel_rfl) (by kernel_rfl) (fun _ _ _ h => h) ⟨Or.inr ⟨by rfl, rfl⟩, fun _ => rfl⟩ ?_
            simp only [List.setIfInBounds_toArray, List.set_cons_zero, List.set_cons_succ]
            refine wpAnyIn_ready (rs := [26]) (by kernel_rfl) (by simp) (AllReadyIn.cons rfl (fun K hK => ?_) AllReadyIn.nil)
            rw [if_neg (by simp [Region.wanted, yielded])]
            refine ⟨fun f hf => trivial, ?_⟩
            refine hK _ _ ?_
            clear hK K
            refine take_at 27 49 (.bool false) rfl rfl rfl (by kernel_rfl) (by kernel_rfl) (by kernel_rfl) (fun _ _ _ h => h) ⟨Or.inl ⟨by rfl, by intro w; go_simp⟩, fun _ => rfl⟩ ?_
            simp only [List.setIfInBounds_toArray, List.set_cons_zero, List.set_cons_succ]
            refine take_at 28 6 (.bool false) rfl rfl rfl (by kernel_rfl) (by kernel_rfl) (by kernel_rfl) (fun _ _ _ h => h) ⟨Or.inl ⟨by rfl, by intro w; go_simp⟩, fun _ => rfl⟩ ?_
            simp only [List.setIfInBounds_toArray, List.set_cons_zero, List.set_cons_succ]
            refine wpAnyIn_done (by kernel_rfl) ?_ _
            gi_wp2
            go_ret
            exact .inr ⟨rfl, ⟨_, by rw [HKE.out]; exact ⟨Kept ah tr, by simp⟩, HX2.out⟩, (Still.turned (Turn.refl _ W).drew).trans (HS1.out.trans HS2.out)⟩
        · go_simp
          refine hK _ _ ?_
          clear hK K
          refine wpAnyIn_ready (rs := [12]) (by kernel_rfl) (by simp) (AllReadyIn.cons rfl (fun K hK => ?_) AllReadyIn.nil)
          go_simp
          refine hK _ _ ?_
          clear hK K
          refine wpAnyIn_ready (rs := [17]) (by kernel_rfl) (by simp) (AllReadyIn.cons rfl (fun K hK => ?_) AllReadyIn.nil)
          go_simp
          refine ⟨rfl, HRO.out.mono ?_⟩
          rintro e W2 (⟨rfl, hj2, ht2, hs2⟩ | ⟨rfl, hx2, hs2⟩)
          · have HS2 := Lib.hid hs2; have HT2 := Lib.hid (HT1.out.trans ht2 (fun _ _ s => s)); have HJ2 := Lib.hid hj2
            obtain ⟨f0, ⟨fv1, fv2, fv3, fv4, fv5, fv6⟩, f2, f3, -⟩ := (HG.out _ HT2.out).cells
            clear hs2 ht2 hj2 e0 ev1 ev2 ev3 ev4 ev5 ev6 e2 e3
            refine hK _ _ ?_
            clear hK K
            refine take_at 18 40 (.bool true) rfl rfl rfl (by kernel_rfl) (by kernel_rfl) (by kernel_rfl) (fun _ _ _ h => h) ⟨Or.inl ⟨by rfl, by intro w; go_simp⟩, fun _ => rfl⟩ ?_
            simp only [List.setIfInBounds_toArray, List.set_cons_zero, List.set_cons_succ]
            refine take_at 19 41 (.bool true) rfl rfl rfl (by kernel_rfl) (by kernel_rfl) (by kernel_rfl) (fun _ _ _ h => h) ⟨Or.inl ⟨by rfl, by intro w; go_simp⟩, fun _ => rfl⟩ ?_
            simp only [List.setIfInBounds_toArray, List.set_cons_zero, List.set_cons_succ]
            refine take_at 20 42 (.pointer (some ⟨g, 0, none⟩)) rfl rfl rfl (by kernel_rfl) (by kernel_rfl) (by kernel_rfl) (fun _ _ _ h => h) ⟨Or.inl ⟨by rfl, by intro w; go_simp⟩, fun _ => rfl⟩ ?_
            simp only [List.setIfInBounds_toArray, List.set_cons_zero, List.set_cons_succ]
            refine take_at 21 43 (.pointer (some ⟨g, 0, none⟩)) rfl rfl rfl (by kernel_rfl) (by kernel_rfl) (by kernel_rfl) (fun _ _ _ h => h) ⟨Or.inl ⟨by rfl, by intro w; go_simp⟩, fun _ => rfl⟩ ?_
            simp only [List.setIfInBounds_toArray, List.set_cons_zero, List.set_cons_succ]
            refine take_at 22 44 (.pointer (some ⟨g, 8, none⟩)) rfl rfl rfl (by kernel_rfl) (by kernel_rfl) (by kernel_rfl) (fun _ _ _ h => h) ⟨Or.inl ⟨by rfl, by intro w; go_simp⟩, fun _ => rfl⟩ ?_
            simp only [List.setIfInBounds_toArray, List.set_cons_zero, List.set_cons_succ]
            refine take_at 24 46 (.func (.func fa) #[] caps) rfl rfl rfl (by kernel_rfl) (by kernel_rfl) (by kernel_rfl) (fun _ _ _ h => h) ⟨Or.inl ⟨by rfl, by intro w; go_simp⟩, fun _ => rfl⟩ ?_
            simp only [List.setIfInBounds_toArray, List.set_cons_zero, List.set_cons_succ]
            refine take_at 25 47 (.func (.yield l) #[] #[]) rfl rfl rfl (by kernel_rfl) (by kernel_rfl) (by kernel_rfl) (fun _ _ _ h => h) ⟨Or.inl ⟨by rfl, by intro w; go_simp⟩, fun _ => rfl⟩ ?_
            simp only [List.setIfInBounds_toArray, List.set_cons_zero, List.set_cons_succ]
            refine wpAnyIn_ready (rs := [23]) (by kernel_rfl) (by simp) (AllReadyIn.cons rfl (fun K hK => ?_) AllReadyIn.nil)
            go_simp
            refine hK _ _ ?_
            clear hK K
            refine wpAnyIn_ready (rs := [26]) (by kernel_rfl) (by simp) (AllReadyIn.cons rfl (fun K hK => ?_) AllReadyIn.nil)
            go_simp
            refine ⟨rfl, (HI2.out W2 HT2.out HJ2.out).mono ?_⟩
            rintro e W3 (⟨rfl, hj3, ht3, hs3⟩ | ⟨rfl, hq3, hs3⟩)
            · have HS3 := Lib.hid hs3; have HT3 := Lib.hid ht3; have HJ3 := Lib.hid hj3
              clear hs3 ht3 hj3
              refine hK _ _ ?_
              clear hK K
              refine take_at 27 49 (.bool true) rfl rfl rfl (by kernel_rfl) (by kernel_rfl) (by kernel_rfl) (fun _ _ _ h => h) ⟨Or.inl ⟨by rfl, by intro w; go_simp⟩, fun _ => rfl⟩ ?_
              simp only [List.setIfInBounds_toArray, List.set_cons_zero, List.set_cons_succ]
              refine take_at 28 6 (.bool true) rfl rfl rfl (by kernel_rfl) (by kernel_rfl) (by kernel_rfl) (fun _ _ _ h => h) ⟨Or.inl ⟨by rfl, by intro w; go_simp⟩, fun _ => rfl⟩ ?_
              simp only [List.setIfInBounds_toArray, List.set_cons_zero, List.set_cons_succ]
              refine wpAnyIn_done (by kernel_rfl) ?_ _
              gi_wp2
              go_ret
              exact .inl ⟨rfl, HJ3.out, HT3.out, (Still.turned (Turn.refl _ W).drew).trans (HS1.out.trans (HS2.out.trans HS3.out))⟩
            · have HS3 := Lib.hid hs3; have HQ3 := Lib.hid hq3
              clear hs3 hq3
              refine hK _ _ ?_
              clear hK K
              refine take_at 27 49 (.bool false) rfl rfl rfl (by kernel_rfl) (by kernel_rfl) (by kernel_rfl) (fun _ _ _ h => h) ⟨Or.inl ⟨by rfl, by intro w; go_simp⟩, fun _ => rfl⟩ ?_
              simp only [List.setIfInBounds_toArray, List.set_cons_zero, List.set_cons_succ]
              refine take_at 28 6 (.bool false) rfl rfl rfl (by kernel_rfl) (by kernel_rfl) (by kernel_rfl) (fun _ _ _ h => h) ⟨Or.inl ⟨by rfl, by intro w; go_simp⟩, fun _ => rfl⟩ ?_
              simp only [List.setIfInBounds_toArray, List.set_cons_zero, List.set_cons_succ]
              refine wpAnyIn_done (by kernel_rfl) ?_ _
              gi_wp2
              go_ret
              exact .inr ⟨rfl, HQ3.out, (Still.turned (Turn.refl _ W).drew).trans (HS1.out.trans (HS2.out.trans HS3.out))⟩
          · have HS2 := Lib.hid hs2; have HX2 := Lib.hid hx2
            clear hs2 hx2
            refine hK _ _ ?_
            clear hK K
            refine take_at 18 40 (.bool false) rfl rfl rfl (by kernel_rfl) (by kernel_rfl) (by kernel_rfl) (fun _ _ _ h => h) ⟨Or.inl ⟨by rfl, by intro w; go_simp⟩, fun _ => rfl⟩ ?_
            simp only [List.setIfInBounds_toArray, List.set_cons_zero, List.set_cons_succ]
            refine take_at 19 41 (.bool false) rfl rfl rfl (by kernel_rfl) (by kernel_rfl) (by kernel_rfl) (fun _ _ _ h => h) ⟨Or.inl ⟨by rfl, by intro w; go_simp⟩, fun _ => rfl⟩ ?_
            simp only [List.setIfInBounds_toArray, List.set_cons_zero, List.set_cons_succ]
            refine take_at 20 42 undef rfl rfl rfl (by kernel_rfl) (by kernel_rfl) (by kernel_rfl) (fun _ _ _ h => h) ⟨Or.inr ⟨by rfl, rfl⟩, fun _ => rfl⟩ ?_
            simp only [List.setIfInBounds_toArray, List.set_cons_zero, List.set_cons_succ]
            refine take_at 21 43 undef rfl rfl rfl (by kernel_rfl) (by kernel_rfl) (by kernel_rfl) (fun _ _ _ h => h) ⟨Or.inr ⟨by rfl, rfl⟩, fun _ => rfl⟩ ?_
            simp only [List.setIfInBounds_toArray, List.set_cons_zero, List.set_cons_succ]
            refine take_at 22 44 undef rfl rfl rfl (by kernel_rfl) (by kernel_rfl) (by kernel_rfl) (fun _ _ _ h => h) ⟨Or.inr ⟨by rfl, rfl⟩, fun _ => rfl⟩ ?_
            simp only [List.setIfInBounds_toArray, List.set_cons_zero, List.set_cons_succ]
            refine take_at 23 45 undef rfl rfl rfl (by kernel_rfl) (by kernel_rfl) (by kernel_rfl) (fun _ _ _ h => h) ⟨Or.inr ⟨by rfl, rfl⟩, fun _ => rfl⟩ ?_
            simp only [List.setIfInBounds_toArray, List.set_cons_zero, List.set_cons_succ]
            refine take_at 24 46 undef rfl rfl rfl (by kernel_rfl) (by kernel_rfl) (by kernel_rfl) (fun _ _ _ h => h) ⟨Or.inr ⟨by rfl, rfl⟩, fun _ => rfl⟩ ?_
            simp only [List.setIfInBounds_toArray, List.set_cons_zero, List.set_cons_succ]
            refine take_at 25 47 undef rfl rfl rfl (by kernel_rfl) (by kernel_rfl) (by kernel_rfl) (fun _ _ _ h => h) ⟨Or.inr ⟨by rfl, rfl⟩, fun _ => rfl⟩ ?_
            simp only [List.setIfInBounds_toArray, List.set_cons_zero, List.set_cons_succ]
            refine wpAnyIn_ready (rs := [26]) (by kernel_rfl) (by simp) (AllReadyIn.cons rfl (fun K hK => ?_) AllReadyIn.nil)
            rw [if_neg (by simp [Region.wanted, yielded])]
            refine ⟨fun f hf => trivial, ?_⟩
            refine hK _ _ ?_
            clear hK K
            refine take_at 27 49 (.bool false) rfl rfl rfl (by kernel_rfl) (by kernel_rfl) (by kernel_rfl) (fun _ _ _ h => h) ⟨Or.inl ⟨by rfl, by intro w; go_simp⟩, fun _ => rfl⟩ ?_
            simp only [List.setIfInBounds_toArray, List.set_cons_zero, List.set_cons_succ]
            refine take_at 28 6 (.bool false) rfl rfl rfl (by kernel_rfl) (by kernel_rfl) (by kernel_rfl) (fun _ _ _ h => h) ⟨Or.inl ⟨by rfl, by intro w; go_simp⟩, fun _ => rfl⟩ ?_
            simp only [List.setIfInBounds_toArray, List.set_cons_zero, List.set_cons_succ]
            refine wpAnyIn_done (by kernel_rfl) ?_ _
            gi_wp2
            go_ret
            exact .inr ⟨rfl, ⟨_, by rw [HKE.out]; exact ⟨Kept ah tr, by simp⟩, HX2.out⟩, (Still.turned (Turn.refl _ W).drew).trans (HS1.out.trans HS2.out)⟩
      · have HS1 := Lib.hid hs1; have HQ1 := Lib.hid hq1
        clear hs1 hq1 d0 dv1 dv2 dv3 dv4 dv5 dv6 d2 d3
        refine hK _ _ ?_
        clear hK K
        refine take_at 7 29 (.bool false) rfl rfl rfl (by kernel_rfl) (by kernel_rfl) (by kernel_rfl) (fun _ _ _ h => h) ⟨Or.inl ⟨by rfl, by intro w; go_simp⟩, fun _ => rfl⟩ ?_
        simp only [List.setIfInBounds_toArray, List.set_cons_zero, List.set_cons_succ]
        refine take_at 8 30 undef rfl rfl rfl (by kernel_rfl) (by kernel_rfl) (by kernel_rfl) (fun _ _ _ h => h) ⟨Or.inr ⟨by rfl, rfl⟩, fun _ => rfl⟩ ?_
        simp only [List.setIfInBounds_toArray, List.set_cons_zero, List.set_cons_succ]
        refine take_at 9 31 undef rfl rfl rfl (by kernel_rfl) (by kernel_rfl) (by kernel_rfl) (fun _ _ _ h => h) ⟨Or.inr ⟨by rfl, rfl⟩, fun _ => rfl⟩ ?_
        simp only [List.setIfInBounds_toArray, List.set_cons_zero, List.set_cons_succ]
        refine take_at 10 32 undef rfl rfl rfl (by kernel_rfl) (by kernel_rfl) (by kernel_rfl) (fun _ _ _ h => h) ⟨Or.inr ⟨by rfl, rfl⟩, fun _ => rfl⟩ ?_
        simp only [List.setIfInBounds_toArray, List.set_cons_zero, List.set_cons_succ]
        refine take_at 11 33 undef rfl rfl rfl (by kernel_rfl) (by kernel_rfl) (by kernel_rfl) (fun _ _ _ h => h) ⟨Or.inr ⟨by rfl, rfl⟩, fun _ => rfl⟩ ?_
        simp only [List.setIfInBounds_toArray, List.set_cons_zero, List.set_cons_succ]
        refine take_at 12 34 undef rfl rfl rfl (by kernel_rfl) (by kernel_rfl) (by kernel_rfl) (fun _ _ _ h => h) ⟨Or.inr ⟨by rfl, rfl⟩, fun _ => rfl⟩ ?_
        simp only [List.setIfInBounds_toArray, List.set_cons_zero, List.set_cons_succ]
        refine take_at 13 35 undef rfl rfl rfl (by kernel_rfl) (by kernel_rfl) (by kernel_rfl) (fun _ _ _ h => h) ⟨Or.inr ⟨by rfl, rfl⟩, fun _ => rfl⟩ ?_
        simp only [List.setIfInBounds_toArray, List.set_cons_zero, List.set_cons_succ]
        refine take_at 14 36 undef rfl rfl rfl (by kernel_rfl) (by kernel_rfl) (by kernel_rfl) (fun _ _ _ h => h) ⟨Or.inr ⟨by rfl, rfl⟩, fun _ => rfl⟩ ?_
        simp only [List.setIfInBounds_toArray, List.set_cons_zero, List.set_cons_succ]
        refine take_at 15 37 undef rfl rfl rfl (by kernel_rfl) (by kernel_rfl) (by kernel_rfl) (fun _ _ _ h => h) ⟨Or.inr ⟨by rfl, rfl⟩, fun _ => rfl⟩ ?_
        simp only [List.setIfInBounds_toArray, List.set_cons_zero, List.set_cons_succ]
        refine take_at 16 38 undef rfl rfl rfl (by kernel_rfl) (by kernel_rfl) (by kernel_rfl) (fun _ _ _ h => h) ⟨Or.inr ⟨by rfl, rfl⟩, fun _ => rfl⟩ ?_
        simp only [List.setIfInBounds_toArray, List.set_cons_zero, List.set_cons_succ]
        refine wpAnyIn_ready (rs := [17]) (by kernel_rfl) (by simp) (AllReadyIn.cons rfl (fun K hK => ?_) AllReadyIn.nil)
        rw [if_neg (by simp [Region.wanted, yielded])]
        refine ⟨fun f hf => trivial, ?_⟩
        refine hK _ _ ?_
        clear hK K
        refine take_at 18 40 (.bool false) rfl rfl rfl (by kernel_rfl) (by kernel_rfl) (by kernel_rfl) (fun _ _ _ h => h) ⟨Or.inl ⟨by rfl, by intro w; go_simp⟩, fun _ => rfl⟩ ?_
        simp only [List.setIfInBounds_toArray, List.set_cons_zero, List.set_cons_succ]
        refine take_at 19 41 (.bool false) rfl rfl rfl (by kernel_rfl) (by kernel_rfl) (by kernel_rfl) (fun _ _ _ h => h) ⟨Or.inl ⟨by rfl, by intro w; go_simp⟩, fun _ => rfl⟩ ?_
        simp only [List.setIfInBounds_toArray, List.set_cons_zero, List.set_cons_succ]
        refine take_at 20 42 undef rfl rfl rfl (by kernel_rfl) (by kernel_rfl) (by kernel_rfl) (fun _ _ _ h => h) ⟨Or.inr ⟨by rfl, rfl⟩, fun _ => rfl⟩ ?_
        simp only [List.setIfInBounds_toArray, List.set_cons_zero, List.set_cons_succ]
        refine take_at 21 43 undef rfl rfl rfl (by kernel_rfl) (by kernel_rfl) (by kernel_rfl) (fun _ _ _ h => h) ⟨Or.inr ⟨by rfl, rfl⟩, fun _ => rfl⟩ ?_
        simp only [List.setIfInBounds_toArray, List.set_cons_zero, List.set_cons_succ]
        refine take_at 22 44 undef rfl rfl rfl (by kernel_rfl) (by kernel_rfl) (by kernel_rfl) (fun _ _ _ h => h) ⟨Or.inr ⟨by rfl, rfl⟩, fun _ => rfl⟩ ?_
        simp only [List.setIfInBounds_toArray, List.set_cons_zero, List.set_cons_succ]
        refine take_at 23 45 undef rfl rfl rfl (by kernel_rfl) (by kernel_rfl) (by kernel_rfl) (fun _ _ _ h => h) ⟨Or.inr ⟨by rfl, rfl⟩, fun _ => rfl⟩ ?_
        simp only [List.setIfInBounds_toArray, List.set_cons_zero, List.set_cons_succ]
        refine take_at 24 46 undef rfl rfl rfl (by kernel_rfl) (by kernel_rfl) (by kernel_rfl) (fun _ _ _ h => h) ⟨Or.inr ⟨by rfl, rfl⟩, fun _ => rfl⟩ ?_
        simp only [List.setIfInBounds_toArray, List.set_cons_zero, List.set_cons_succ]
        refine take_at 25 47 undef rfl rfl rfl (by kernel_rfl) (by kernel_rfl) (by kernel_rfl) (fun _ _ _ h => h) ⟨Or.inr ⟨by rfl, rfl⟩, fun _ => rfl⟩ ?_
        simp only [List.setIfInBounds_toArray, List.set_cons_zero, List.set_cons_succ]
        refine wpAnyIn_ready (rs := [26]) (by kernel_rfl) (by simp) (AllReadyIn.cons rfl (fun K hK => ?_) AllReadyIn.nil)
        rw [if_neg (by simp [Region.wanted, yielded])]
        refine ⟨fun f hf => trivial, ?_⟩
        refine hK _ _ ?_
        clear hK K
        refine take_at 27 49 (.bool false) rfl rfl rfl (by kernel_rfl) (by kernel_rfl) (by kernel_rfl) (fun _ _ _ h => h) ⟨Or.inl ⟨by rfl, by intro w; go_simp⟩, fun _ => rfl⟩ ?_
        simp only [List.setIfInBounds_toArray, List.set_cons_zero, List.set_cons_succ]
        refine take_at 28 6 (.bool false) rfl rfl rfl (by kernel_rfl) (by kernel_rfl) (by kernel_rfl) (fun _ _ _ h => h) ⟨Or.inl ⟨by rfl, by intro w; go_simp⟩, fun _ => rfl⟩ ?_
        simp only [List.setIfInBounds_toArray, List.set_cons_zero, List.set_cons_succ]
        refine wpAnyIn_done (by kernel_rfl) ?_ _
        gi_wp2
        go_ret
        obtain ⟨q, hq, hx⟩ := HQ1.out
        exact .inr ⟨rfl, ⟨q, hq.trans (by rw [HKE.out]; exact ⟨(k, v) :: Kept ah tr, by simp⟩), hx⟩, (Still.turned (Turn.refl _ W).drew).trans HS1.out⟩

end Go.Proofs.Ytgbphkbbedkepaa.ome

/-
  A map's keys, rising, by a range over a function: rising, All (keys int64, values api.Entry).
-/
namespace Go.Proofs.Ytgbphkbbedkepaa.ome
open Go.RowKit Go.Shelf
attribute [local go_sem] Oper.semAt_some wide_fn

theorem yield_depth {m m' : Nat} {P : Program} {l : Nat} {args : Array Value} {W : World} {R : Ending → World → Prop} (h : YieldAt Fence.wide m P l args W R) : YieldAt Fence.wide m' P l args W R := by
  obtain ⟨fn, tmps, assign, body, hy, hR⟩ := h
  exact ⟨fn, tmps, assign, body, hy, hR.1, fun c cs _ => hR.2 c cs (room_wide _)⟩
theorem calls_depth {m m' : Nat} {P : Program} {f : FuncId} {args : Array Value} {W : World} {R : Ending → World → Prop} (h : CallsIn Fence.wide m P f args W R) : CallsIn Fence.wide m' P f args W R := callsIn_wide.2 (callsIn_wide.1 h)

/-- What a range over a map has at hand: where its tree's root, and what says what is ahead, lie; the tree; what is ahead. -/
structure Src (w : World) (q1 q2 : Nat) (A : Option Addr) (fa : Nat) (caps : Array Value) (x : Tr Int N20) (ah : Int → Bool) : Prop where
  root : Box w q1 72 #[.pointer A]
  fun' : Box w q2 87 #[.func (.func fa) #[] caps]
  tree : Nd w x (.pointer A)
  up : Up ltI x.flat
  enters : ∀ args w, (callFunc fa args).run Try.prog w = .ok (.enter fa args) w
  falls : Falls ah

set_option maxRecDepth 100000 in
set_option maxHeartbeats 1000000 in
theorem rising_feeds3 (n : Nat) {w : World} {q1 q2 : Nat} {A : Option Addr} {fa : Nat} {caps : Array Value} {x : Tr Int N20} {ah : Int → Bool} (h : Src w q1 q2 A fa caps x ah) (S : Nat → Prop) (h1 : ¬ S q1) (h2 : ¬ S q2) (hB : Base S w)
    (hA : ∀ key W, Turn S w W → Calls Try.prog fa (#[(.int .i64 key)] ++ caps) W fun e W' => e = .returned (.bool (ah key)) ∧ W = W') :
    Feeds3 n 77 #[.pointer (some ⟨q1, 0, none⟩), .pointer (some ⟨q2, 0, none⟩)] prs S (fun pre y _ => pre ++ [y] <+: Kept ah x) (fun xs => xs = Kept ah x) (fun pre => pre <+: Kept ah x) w := fun l J Jx W hW _ hJ hJx hY h0 => by
  have hWS : Turn S w W := hW.none
  have hc1 := (h.root.turn hWS h1).cell 0
  have hc2 := (h.fun'.turn hWS h2).cell 0
  have HR : Hid (Rounds l fa caps ah S w J Jx (Kept ah x)) := ⟨fun pre W1 hj => hJ _ _ _ hj ((Turn.refl (fun _ => False) W1).drew.none), h.enters, hA, fun pre y W1 hj _ hp => yield_depth (hY pre y W1 hj hp)⟩
  have HE := Lib.hid (each_any l fa caps ah S w J Jx (Kept ah x) HR.out hB h.falls x (.pointer A) [] W h.tree hWS h0 h.up (by rw [List.nil_append]; exact List.prefix_refl _))
  clear h0 hJ hJx hY hA h hB HR
  refine callsIn_of_wp Try.func77 rfl trivial ?_ rfl
  simp only [Try.ntmps77, List.size_toArray, List.length_cons, List.length_nil, Nat.reduceAdd, Nat.reduceSub, Array.replicate_succ, Array.replicate_zero, List.push_toArray, List.append_toArray, List.nil_append, List.cons_append]
  gi_wp2_with fail
  refine ⟨fun h => by (cases h), (calls_depth HE.out).mono ?_⟩
  rintro e W1 (⟨rfl, hj, _, _⟩ | ⟨rfl, ⟨q, hq, hx⟩, _⟩)
  · have HJ := Lib.hid hj; clear hj
    gi_wp2
    go_end0
    exact ⟨⟨_, rfl⟩, .inl ⟨_, rfl, by have := HJ.out; rwa [List.nil_append] at this⟩⟩
  · have HX := Lib.hid hx; have HQ := Lib.hid hq; clear hx hq
    gi_wp2
    go_end0
    exact ⟨⟨_, rfl⟩, .inr ⟨q, by have := HQ.out; rwa [List.nil_append] at this, HX.out⟩⟩

theorem rising_feeds (n : Nat) {w : World} {q1 q2 : Nat} {A : Option Addr} {fa : Nat} {caps : Array Value} {x : Tr Int N20} {ah : Int → Bool} (h : Src w q1 q2 A fa caps x ah) (S : Nat → Prop) (h1 : ¬ S q1) (h2 : ¬ S q2) (hB : Base S w)
    (hA : ∀ key W, Turn S w W → Calls Try.prog fa (#[(.int .i64 key)] ++ caps) W fun e W' => e = .returned (.bool (ah key)) ∧ W = W') :
    Feeds n 77 #[.pointer (some ⟨q1, 0, none⟩), .pointer (some ⟨q2, 0, none⟩)] prs S (fun pre y _ => pre ++ [y] <+: Kept ah x) (fun xs => xs = Kept ah x) (fun pre => pre <+: Kept ah x) w := (rising_feeds3 n h S h1 h2 hB hA).feeds

/-- The range over a map that rising makes. -/
def RisV (q1 q2 : Nat) : Value := .func (.func 77) #[] #[.pointer (some ⟨q1, 0, none⟩), .pointer (some ⟨q2, 0, none⟩)]
structure Ris (w w' : World) (q1 q2 : Nat) (fa : Nat) (caps : Array Value) (L : List (Int × N20)) : Prop where
  out : ∃ (A : Option Addr) (x : Tr Int N20), Box w' q1 72 #[.pointer A] ∧ Box w' q2 87 #[.func (.func fa) #[] caps] ∧ Nd w' x (.pointer A) ∧ x.flat = L
  up : Up ltI L
  new1 : w.heap.size ≤ q1
  new2 : w.heap.size ≤ q2
  turn : Turn (fun _ => False) w w'

set_option maxRecDepth 100000 in
theorem rising_any (fa : Nat) (caps : Array Value) {w : World} {g : Nat} {L : List (Int × N20)} (h : MP w g L) :
    Calls Try.prog 55 #[.pointer (some ⟨g, 0, none⟩), .func (.func fa) #[] caps] w fun e w' => ∃ q1 q2, e = .returned (RisV q1 q2) ∧ Ris w w' q1 q2 fa caps L := by
  have HU := Lib.hid h.up
  obtain ⟨t0, x, A, hne0, hb, hx, hf⟩ := h.out
  have hne1 : w.heap.size ≠ g := by have := hb.lt; omega
  have hne2 : w.heap.size + 1 ≠ g := by have := hb.lt; omega
  have hc := ((hb.alloc (.cells #[.func (.func fa) #[] caps] 87)).alloc (.cells #[.pointer none] 72)).cell 0
  have HX := Lib.hid hx; have HF := Lib.hid hf
  clear h hb hx hf
  go_enter Try.func55, Try.ntmps55
  go_wp2
  go_ret
  exact ⟨w.heap.size + 1, w.heap.size, rfl, ⟨A, x, by have := Box.new (w.alloc (.cells #[.func (.func fa) #[] caps] 87)) 72 #[.pointer (A)]; rw [World.size_alloc] at this; exact this, (Box.new w 87 #[.func (.func fa) #[] caps]).alloc _, HX.out.later (((Turn.refl _ w).alloc _).alloc _), HF.out⟩, HU.out, Nat.le_succ _, Nat.le_refl _, ((Turn.refl _ w).alloc _).alloc _⟩

set_option maxRecDepth 100000 in
theorem rising_nil (fa : Nat) (caps : Array Value) (w : World) :
    Calls Try.prog 55 #[.pointer none, .func (.func fa) #[] caps] w fun e w' => ∃ q1 q2, e = .returned (RisV q1 q2) ∧ Ris w w' q1 q2 fa caps [] := by
  have HU : Hid (Up ltI ([] : List (Int × N20))) := up_nil
  go_enter Try.func55, Try.ntmps55
  go_wp2
  go_ret
  exact ⟨w.heap.size + 1, w.heap.size, rfl, ⟨none, .nil, by have := Box.new (w.alloc (.cells #[.func (.func fa) #[] caps] 87)) 72 #[.pointer (none)]; rw [World.size_alloc] at this; exact this, (Box.new w 87 #[.func (.func fa) #[] caps]).alloc _, rfl, rfl⟩, HU.out, Nat.le_succ _, Nat.le_refl _, ((Turn.refl _ w).alloc _).alloc _⟩

set_option maxRecDepth 100000 in
theorem none_any (key : Int) (w : World) : Calls Try.prog 56 #[(.int .i64 key)] w fun e w' => e = .returned (.bool false) ∧ w = w' := by
  go_enter Try.func56, Try.ntmps56
  go_wp2
  go_ret
  exact ⟨rfl, rfl⟩

/-- What All makes, of a map whose list is L. -/
def AllPost (w : World) (L : List (Int × N20)) (e : Ending) (w' : World) : Prop := ∃ q1 q2, e = .returned (RisV q1 q2) ∧ Ris w w' q1 q2 56 #[] L

set_option maxRecDepth 100000 in
theorem all_any {w : World} {g : Nat} {L : List (Int × N20)} (h : MP w g L) :
    Calls Try.prog 37 #[.pointer (some ⟨g, 0, none⟩)] w fun e w' => AllPost w L e w' := by
  have HR := Lib.hid (rising_any 56 #[] h)
  clear h
  go_enter Try.func37, Try.ntmps37
  go_wp2_with (go_at_call 55; refine HR.out.mono ?_; rintro e w' ⟨q1, q2, rfl, hr⟩; have HX := Lib.hid hr; clear hr; unfold RisV)
  go_ret
  exact ⟨q1, q2, rfl, HX.out⟩
set_option maxRecDepth 100000 in
theorem all_nil (w : World) : Calls Try.prog 37 #[.pointer none] w fun e w' => AllPost w [] e w' := by
  have HR := Lib.hid (rising_nil 56 #[] w)
  go_enter Try.func37, Try.ntmps37
  go_wp2_with (go_at_call 55; refine HR.out.mono ?_; rintro e w' ⟨q1, q2, rfl, hr⟩; have HX := Lib.hid hr; clear hr; unfold RisV)
  go_ret
  exact ⟨q1, q2, rfl, HX.out⟩

theorem kept_none (x : Tr Int N20) : Kept (fun _ => false) x = x.flat := by unfold Kept; simp

theorem all_feeds (n : Nat) {w w' : World} {q1 q2 : Nat} {L : List (Int × N20)} (h : Ris w w' q1 q2 56 #[] L) (S : Nat → Prop) (h1 : ¬ S q1) (h2 : ¬ S q2) (hB : Base S w') :
    Feeds n 77 #[.pointer (some ⟨q1, 0, none⟩), .pointer (some ⟨q2, 0, none⟩)] prs S (fun pre y _ => pre ++ [y] <+: L) (fun xs => xs = L) (fun pre => pre <+: L) w' := by
  obtain ⟨A, x, hb1, hb2, hx, hf⟩ := h.out
  have hs : Src w' q1 q2 A 56 #[] x (fun _ => false) := ⟨hb1, hb2, hx, by rw [hf]; exact h.up, enters_of Try.func56 (by kernel_rfl) rfl, fun _ _ _ h => h⟩
  have := rising_feeds n hs S h1 h2 hB (fun key W _ => none_any key W)
  rw [kept_none, hf] at this
  exact this

end Go.Proofs.Ytgbphkbbedkepaa.ome

/-
  A range over a function whose rounds may turn what rounds have laid, over an iterator that lays memory of its own ahead of the first round: the base from which on blocks are the rounds' own is told at the first round. The loop variable boxed. No type is named.
-/
namespace Go.Proofs.Ytgbphkbbedkepaa
open Go.RowKit

/-- The contract of an iterator value, as Feeds: a round may turn S, and what has been laid from block B on, which is where the world ended when the rounds began. -/
def Feeds5 {α : Type} (n : Nat) (g : Nat) (lb : Array Value) (encs : α → Array Value) (S : Nat → Prop) (Gv : List α → α → World → Prop) (All Part : List α → Prop) (w : World) : Prop :=
  ∀ (l : Nat) (J : Nat → List α → World → Prop) (Jx : List α → World → Prop) (W : World), Turn (fun _ => False) w W → l < W.heap.size → (∀ k, S k → k < W.heap.size) → (∀ B, Holds W.heap.size (J B)) → Holds W.heap.size Jx →
    (∀ B pre x W1, W.heap.size ≤ B → J B pre W1 → Gv pre x W1 → YieldAt Fence.wide (n - 1) Try.prog l (encs x) W1 fun e W' =>
      (e = .returned (.bool true) ∧ J B (pre ++ [x]) W' ∧ Turn (fun k => S k ∨ B ≤ k) W1 W' ∧ Still (l + 1) W1 W') ∨ (e = .returned (.bool false) ∧ Jx (pre ++ [x]) W' ∧ Still (l + 1) W1 W')) →
    (∀ W1, Turn (fun _ => False) W W1 → J W1.heap.size [] W1) →
    CallsIn Fence.wide n Try.prog g (#[.func (.yield l) #[] #[]] ++ lb) W fun e W' => (∃ v, e = .returned v) ∧ ((∃ B xs, All xs ∧ J B xs W') ∨ (∃ pre, Part pre ∧ Jx pre W'))

/-- 'for .. := range g { body }' over an iterator that has such a contract: a round may turn what rounds have laid. -/
theorem over8a {α : Type} {n : Nat} {g : Operand} {ps : Array Tmp} {assign body : Code} {Q : Exit → Act → World → Prop} {a : Act} {w w0 : World} (h1 : 1 ≤ n)
    {gf : Nat} {lb : Array Value} (hg : a.eval g = .func (.func gf) #[] lb) (eg : ∀ args w, (callFunc gf args).run Try.prog w = .ok (.enter gf args) w)
    {encs : α → Array Value} {S : Nat → Prop} {Gv : List α → α → World → Prop} {All Part : List α → Prop} (hseq : Feeds5 (n - 1) gf lb encs S Gv All Part w0) (hb0 : Turn (fun _ => False) w0 w)
    (hS : S (w.heap.size + 1)) (hS2 : ∀ k, S k → k < w.heap.size + 2) (hps : ∀ x, (encs x).size = ps.size)
    (I : Nat → List α → World → Prop) (Ix : Code → List α → World → Prop) (hI : ∀ B, Holds w.heap.size (I B)) (hIx : ∀ c, Holds w.heap.size (Ix c)) (h0 : ∀ W, Turn (fun _ => False) w W → I W.heap.size [] W) (I2 : Nat → List α → α → Act → World → Prop) (hI2 : ∀ N pre x a' A B, I2 N pre x a' A → Turn (odd w.heap.size A) A B → I2 N pre x a' B)
    (hassign : ∀ (l N : Nat) (pre : List α) (x : α) (W : World) (K : Act → World → Prop), w.heap.size + 2 ≤ N → I N pre W → Gv pre x W → (∀ a' W', I2 N pre x a' W' → Turn (fun _ => False) W W' → K a' W') →
      assign.wpIn (Fence.wide.inRound l) (n - 1 - 1) Try.prog (Exit.then K (fun _ _ _ => False)) { tmps := (ps.zip (encs x)).foldl (fun t (p, v) => t.setIfInBounds p v) a.tmps, defers := [] } W)
    (hbody : ∀ (l N : Nat) (pre : List α) (x : α) (a' : Act) (W : World), w.heap.size + 2 ≤ N → I2 N pre x a' W → body.wpIn (Fence.wide.inRound l) (n - 1 - 1) Try.prog (postF w.heap.size (fun k => S k ∨ N ≤ k) (I N) Ix (pre ++ [x]) W) a' W)
    (hdone : ∀ (D N : Nat) (xs : List α) (W : World), w.heap.size ≤ D → All xs → I N xs W → W.heap[D]? = some (.deferred (some [])) → Q .normal { a with defers := { target := .collected D, args := #[] } :: a.defers } W)
    (hstop : ∀ (D : Nat) (c : Code) (pre : List α) (W : World), w.heap.size ≤ D → Part pre → Ix c pre W → W.heap[D]? = some (.deferred (some [])) → c.wpIn Fence.wide n Try.prog Q { a with defers := { target := .collected D, args := #[] } :: a.defers } W) :
    (Code.rangeFunc g ps assign body).wpIn Fence.wide n Try.prog Q a w := by
  refine wpIn_rangeFunc fun fn hfn => ?_
  obtain ⟨R, hR⟩ : ∃ R : LoopState → Option Code → Obj, R = fun st pe => .loop { state := st, pending := pe, fn, tmps := a.tmps, params := ps, assign, body, defers := w.heap.size } := ⟨_, rfl⟩
  -- the two blocks of the statement: the rounds' deferred calls, and its record, in a state
  obtain ⟨Bk, hBk⟩ : ∃ Bk : LoopState → Option Code → World → Prop, Bk = fun st pe W => W.heap[w.heap.size + 1]? = some (R st pe) ∧ W.heap[w.heap.size]? = some (.deferred (some [])) := ⟨_, rfl⟩
  obtain ⟨W1, hW1⟩ : ∃ W1, (w.alloc (.deferred (some []))).alloc (R .ready none) = W1 := ⟨_, rfl⟩
  have hsz : W1.heap.size = w.heap.size + 2 := by rw [← hW1]; simp
  have t1 : Turn (fun _ => False) w W1 := by rw [← hW1]; exact ((Turn.refl _ w).alloc _).alloc _
  have k1 : Bk .ready none W1 := by
    rw [hBk]
    refine ⟨?_, ?_⟩
    · have := World.alloc_heap_new (w.alloc (.deferred (some []))) (R .ready none)
      rw [World.size_alloc] at this
      rw [← hW1]
      exact this
    · rw [← hW1]
      exact (Below.heap_alloc _ _ _ (by simp)).trans (World.alloc_heap_new w _)
  have move : ∀ {D : Nat} {st : LoopState} {pe : Option Code} {A B : World}, w.heap.size + 2 ≤ D → Turn (odd D A) A B → Bk st pe A → Bk st pe B := by
    intro D st pe A B hD ht hk
    rw [hBk] at hk ⊢
    have far : ∀ k, k < w.heap.size + 2 → k < A.heap.size → B.heap[k]? = A.heap[k]? := fun k hk1 hk2 => ht.block k hk2 (fun s => by have := s.1; omega)
    exact ⟨(far _ (by omega) (Array.getElem?_eq_some_iff.1 hk.1).1).trans hk.1, (far _ (by omega) (Array.getElem?_eq_some_iff.1 hk.2).1).trans hk.2⟩
  have put : ∀ {st st' : LoopState} {pe pe' : Option Code} {A : World}, Bk st pe A → Bk st' pe' (A.putObj (w.heap.size + 1) (R st' pe')) ∧ Turn (odd w.heap.size A) A (A.putObj (w.heap.size + 1) (R st' pe')) ∧ Turn S A (A.putObj (w.heap.size + 1) (R st' pe')) := by
    intro st st' pe pe' A hk
    rw [hBk] at hk ⊢
    refine ⟨⟨World.putObj_heap_same (Array.getElem?_eq_some_iff.1 hk.1).1, (World.putObj_heap_other (by omega)).trans hk.2⟩, Turn.putObj _ _ _ ⟨by omega, _, hk.1, ?_⟩, Turn.putObj _ _ _ hS⟩
    rw [hR]
    rfl
  have keep : ∀ {st : LoopState} {pe : Option Code} {A B : World}, Still w.heap.size A B → Bk st pe A → Bk st pe B := by
    intro st pe A B h hk
    rw [hBk] at hk ⊢
    exact ⟨h.same _ _ (Nat.le_succ _) hk.1 (by rw [hR]; rfl), h.same _ _ (Nat.le_refl _) hk.2 rfl⟩
  refine ⟨w.heap.size + 1, [{ target := .collected w.heap.size, args := #[] }], W1, { target := .fn (.func gf) lb, args := #[.func (.yield (w.heap.size + 1)) #[] #[]] }, W1, gf,
    #[.func (.yield (w.heap.size + 1)) #[] #[]] ++ lb, W1, ?_, ?_, ?_, ?_, fun _ => h1, ?_⟩
  · rw [← hW1, hR]
    exact run_enterLoop_outer _ _ _ _ _
  · simp only [resolve, hg]
    simp [go_sem]
  · intro f' _
    trivial
  · simp [invoke, go_sem, eg]
  · refine (hseq (w.heap.size + 1) (fun N pre W => I N pre W ∧ Bk .ready none W) (fun pre W => ∃ c, Ix c pre W ∧ Bk .done (some c) W) W1 (hb0.trans t1 (fun _ _ f => f)) (by omega) (fun k hk => by have := hS2 k hk; omega)
      (fun N s A B hs ht => ⟨((hI N).le (by omega)) s A B hs.1 ht, move (by omega) ht hs.2⟩)
      (fun s A B hs ht => by
        obtain ⟨c, hc, hk⟩ := hs
        exact ⟨c, ((hIx c).le (by omega)) s A B hc ht, move (by omega) ht hk⟩)
      ?_ (fun W2 t2 => ⟨h0 W2 (t1.trans t2 (fun _ _ f => f)), keep (Still.turned t2) k1⟩)).mono ?_
    · rintro N pre x W hN ⟨hi, hk⟩ hgv
      rw [hsz] at hN
      have hl : W.heap[w.heap.size + 1]? = some (R .ready none) := by rw [hBk] at hk; exact hk.1
      rw [hR] at hl
      have hy := run_yield (P := Try.prog) (args := encs x) hl (hps x)
      refine ⟨fn, _, assign, body, hy, roundIn_of_wpIn hfn (hassign _ N pre x W _ hN hi hgv fun a5 W5 hx5 ht5 => ?_)⟩
      have hk5 : Bk .ready none W5 := by
        rw [hBk] at hk ⊢
        exact ⟨(ht5.block _ (Array.getElem?_eq_some_iff.1 hk.1).1 (fun f => f)).trans hk.1, (ht5.block _ (Array.getElem?_eq_some_iff.1 hk.2).1 (fun f => f)).trans hk.2⟩
      have hl5 : W5.heap[w.heap.size + 1]? = some (R .ready none) := by rw [hBk] at hk5; exact hk5.1
      rw [hR] at hl5
      refine ⟨_, run_beginRound hl5 rfl, ?_⟩
      have hp := put (st' := .busy) (pe' := none) hk5
      rw [hR] at hp
      refine wpIn_mono (hbody _ N pre x a5 _ hN (hI2 _ _ _ _ _ _ hx5 hp.2.1)) ?_
      have ends : ∀ (jump : Option Code) (W3 : World), Still w.heap.size (W5.putObj (w.heap.size + 1) (.loop { state := .busy, pending := none, fn, tmps := a.tmps, params := ps, assign, body, defers := w.heap.size })) W3 →
          ∃ W4, (Instr.endRound (w.heap.size + 1) jump).run Try.prog W3 = .ok (.bool jump.isNone) W4 ∧ Bk (if jump.isNone then .ready else .done) jump W4 ∧ Turn (odd w.heap.size W3) W3 W4 ∧ Turn S W3 W4 ∧ Still (w.heap.size + 1 + 1) W W4 := by
        intro jump W3 hk3
        have h3 := keep hk3 hp.1
        have hl3 : W3.heap[w.heap.size + 1]? = some (R .busy none) := by rw [hBk] at h3; exact h3.1
        have h4 := put (st' := if jump.isNone then .ready else .done) (pe' := jump) h3
        rw [hR] at hl3 h4
        exact ⟨_, run_endRound jump hl3, h4.1, h4.2.1, h4.2.2, (((Still.turned ht5).trans (Still.put W5 _ _ (Nat.lt_succ_self _))).trans (hk3.le (by omega))).trans (Still.put W3 _ _ (Nat.lt_succ_self _))⟩
      rintro e a3 W3 hpost
      cases e with
      | normal =>
        obtain ⟨hk3, ht3, hi3⟩ := hpost
        obtain ⟨W4, hr, hb4, ht4, hu4, hs4⟩ := ends none W3 hk3
        exact ⟨_, _, hr, .inl ⟨rfl, ⟨hI _ _ _ _ hi3 ht4, hb4⟩, (((ht5.none.trans hp.2.2 (fun _ _ s => s)).mono (fun _ _ s => .inl s)).trans ht3 (fun _ _ s => s)).trans hu4 (fun _ _ s => .inl s), hs4⟩⟩
      | ret =>
        obtain ⟨hk3, hi3⟩ := hpost
        obtain ⟨W4, hr, hb4, ht4, hu4, hs4⟩ := ends (some .ret) W3 hk3
        exact ⟨_, _, hr, .inr ⟨rfl, ⟨.ret, hIx _ _ _ _ hi3 ht4, hb4⟩, hs4⟩⟩
      | exit id =>
        obtain ⟨hk3, hi3⟩ := hpost
        obtain ⟨W4, hr, hb4, ht4, hu4, hs4⟩ := ends (some (.exit id)) W3 hk3
        exact ⟨_, _, hr, .inr ⟨rfl, ⟨.exit id, hIx _ _ _ _ hi3 ht4, hb4⟩, hs4⟩⟩
      | goto t =>
        obtain ⟨hk3, hi3⟩ := hpost
        obtain ⟨W4, hr, hb4, ht4, hu4, hs4⟩ := ends (some (.goto t)) W3 hk3
        exact ⟨_, _, hr, .inr ⟨rfl, ⟨.goto t, hIx _ _ _ _ hi3 ht4, hb4⟩, hs4⟩⟩
      | panic ch => exact hpost.elim
      | outgrown => exact hpost.elim
    · have shut : ∀ {st : LoopState} {pe : Option Code} {W2 : World}, st ≠ .busy → Bk st pe W2 → ∃ W3, (Instr.endLoop (w.heap.size + 1)).run Try.prog W2 = .ok pe W3 ∧ W3.heap[w.heap.size]? = some (.deferred (some [])) ∧ Turn (odd w.heap.size W2) W2 W3 := by
        intro st pe W2 hst hk
        have hl : W2.heap[w.heap.size + 1]? = some (R st pe) := by rw [hBk] at hk; exact hk.1
        have h4 := put (st' := .exhausted) (pe' := pe) hk
        have h5 : (W2.putObj (w.heap.size + 1) (R .exhausted pe)).heap[w.heap.size]? = some (.deferred (some [])) := by have h6 := h4.1; rw [hBk] at h6; exact h6.2
        rw [hR] at hl h4 h5
        exact ⟨_, run_endLoop hl hst, h5, h4.2.1⟩
      rintro e W2 ⟨⟨v, rfl⟩, (⟨N, xs, hA, hi, hk⟩ | ⟨pre, hP, c, hi, hk⟩)⟩
      · obtain ⟨W3, hr, hd, ht⟩ := shut (by simp) hk
        exact ⟨none, W3, hr, hdone _ N xs _ (Nat.le_refl _) hA (hI _ _ _ _ hi ht) hd⟩
      · obtain ⟨W3, hr, hd, ht⟩ := shut (by simp) hk
        exact ⟨some c, W3, hr, hstop _ c pre _ (Nat.le_refl _) hP (hIx c _ _ _ hi ht) hd⟩

theorem over8 {α : Type} {n : Nat} {g : Operand} {ps : Array Tmp} {assign body : Code} {Q : Exit → Act → World → Prop} {a : Act} {w w0 : World} (h1 : 1 ≤ n)
    {gf : Nat} {lb : Array Value} (hg : a.eval g = .func (.func gf) #[] lb) (eg : ∀ args w, (callFunc gf args).run Try.prog w = .ok (.enter gf args) w)
    {encs : α → Array Value} {S : Nat → Prop} {Gv : List α → α → World → Prop} {All Part : List α → Prop} (hseq : Feeds5 (n - 1) gf lb encs S Gv All Part w0) (hb0 : Turn (fun _ => False) w0 w)
    (hS : S (w.heap.size + 1)) (hS2 : ∀ k, S k → k < w.heap.size + 2) (hps : ∀ x, (encs x).size = ps.size) (A : α → Nat → Act)
    (I : Nat → List α → World → Prop) (Ix : Code → List α → World → Prop) (hI : ∀ B, Holds w.heap.size (I B)) (hIx : ∀ c, Holds w.heap.size (Ix c)) (h0 : ∀ W, Turn (fun _ => False) w W → I W.heap.size [] W) (I2 : Nat → List α → α → Nat → World → Prop) (hI2 : ∀ N pre x q A B, I2 N pre x q A → Turn (odd w.heap.size A) A B → I2 N pre x q B)
    (hassign : ∀ (l N : Nat) (pre : List α) (x : α) (W : World) (K : Act → World → Prop), w.heap.size + 2 ≤ N → I N pre W → Gv pre x W → (∀ q W', I2 N pre x q W' → Turn (fun _ => False) W W' → K (A x q) W') →
      assign.wpIn (Fence.wide.inRound l) (n - 1 - 1) Try.prog (Exit.then K (fun _ _ _ => False)) { tmps := (ps.zip (encs x)).foldl (fun t (p, v) => t.setIfInBounds p v) a.tmps, defers := [] } W)
    (hbody : ∀ (l N : Nat) (pre : List α) (x : α) (q : Nat) (W : World), w.heap.size + 2 ≤ N → I2 N pre x q W → body.wpIn (Fence.wide.inRound l) (n - 1 - 1) Try.prog (postF w.heap.size (fun k => S k ∨ N ≤ k) (I N) Ix (pre ++ [x]) W) (A x q) W)
    (hdone : ∀ (D N : Nat) (xs : List α) (W : World), w.heap.size ≤ D → All xs → I N xs W → W.heap[D]? = some (.deferred (some [])) → Q .normal { a with defers := { target := .collected D, args := #[] } :: a.defers } W)
    (hstop : ∀ (D : Nat) (c : Code) (pre : List α) (W : World), w.heap.size ≤ D → Part pre → Ix c pre W → W.heap[D]? = some (.deferred (some [])) → c.wpIn Fence.wide n Try.prog Q { a with defers := { target := .collected D, args := #[] } :: a.defers } W) :
    (Code.rangeFunc g ps assign body).wpIn Fence.wide n Try.prog Q a w :=
  over8a h1 hg eg hseq hb0 hS hS2 hps I Ix hI hIx h0 (fun N pre x a' W => ∃ q, a' = A x q ∧ I2 N pre x q W) (fun N pre x a' B C ⟨q, h, k⟩ ht => ⟨q, h, hI2 N pre x q B C k ht⟩)
    (fun l N pre x W K hN hi hgv hK => hassign l N pre x W K hN hi hgv fun q W' h ht => hK _ _ ⟨q, rfl, h⟩ ht)
    (fun l N pre x a' W hN ⟨q, h, k⟩ => by subst h; exact hbody l N pre x q W hN k) hdone hstop

end Go.Proofs.Ytgbphkbbedkepaa

/-
  A range over a function, as over4, its loop variable boxed: the activation of a round is a function of what has come and of its box, found by unification in the case 'assign'. No type is named.
-/
namespace Go.Proofs.Ytgbphkbbedkepaa
open Go.RowKit

theorem over5 {α : Type} {n : Nat} {g : Operand} {ps : Array Tmp} {assign body : Code} {Q : Exit → Act → World → Prop} {a : Act} {w w0 : World} (h1 : 1 ≤ n)
    {gf : Nat} {lb : Array Value} (hg : a.eval g = .func (.func gf) #[] lb) (eg : ∀ args w, (callFunc gf args).run Try.prog w = .ok (.enter gf args) w)
    {encs : α → Array Value} {S : Nat → Prop} {Gv : List α → α → World → Prop} {All Part : List α → Prop} (hseq : Feeds3 (n - 1) gf lb encs S Gv All Part w0) (hb0 : Turn (fun _ => False) w0 w)
    (hS : S (w.heap.size + 1)) (hps : ∀ x, (encs x).size = ps.size) (A : α → Nat → Act)
    (I : List α → World → Prop) (Ix : Code → List α → World → Prop) (hI : Holds w.heap.size I) (hIx : ∀ c, Holds w.heap.size (Ix c)) (h0 : I [] w) (I2 : List α → α → Nat → World → Prop) (hI2 : ∀ pre x q A B, I2 pre x q A → Turn (odd w.heap.size A) A B → I2 pre x q B)
    (hassign : ∀ (l : Nat) (pre : List α) (x : α) (W : World) (K : Act → World → Prop), I pre W → Gv pre x W → (∀ q W', I2 pre x q W' → Turn (fun _ => False) W W' → K (A x q) W') →
      assign.wpIn (Fence.wide.inRound l) (n - 1 - 1) Try.prog (Exit.then K (fun _ _ _ => False)) { tmps := (ps.zip (encs x)).foldl (fun t (p, v) => t.setIfInBounds p v) a.tmps, defers := [] } W)
    (hbody : ∀ (l : Nat) (pre : List α) (x : α) (q : Nat) (W : World), I2 pre x q W → body.wpIn (Fence.wide.inRound l) (n - 1 - 1) Try.prog (postF w.heap.size S I Ix (pre ++ [x]) W) (A x q) W)
    (hdone : ∀ (D : Nat) (xs : List α) (W : World), w.heap.size ≤ D → All xs → I xs W → W.heap[D]? = some (.deferred (some [])) → Q .normal { a with defers := { target := .collected D, args := #[] } :: a.defers } W)
    (hstop : ∀ (D : Nat) (c : Code) (pre : List α) (W : World), w.heap.size ≤ D → Part pre → Ix c pre W → W.heap[D]? = some (.deferred (some [])) → c.wpIn Fence.wide n Try.prog Q { a with defers := { target := .collected D, args := #[] } :: a.defers } W) :
    (Code.rangeFunc g ps assign body).wpIn Fence.wide n Try.prog Q a w :=
  over4 h1 hg eg hseq hb0 hS hps I Ix hI hIx h0 (fun pre x a' W => ∃ q, a' = A x q ∧ I2 pre x q W) (fun pre x a' B C ⟨q, h, k⟩ ht => ⟨q, h, hI2 pre x q B C k ht⟩)
    (fun l pre x W K hi hgv hK => hassign l pre x W K hi hgv fun q W' h ht => hK _ _ ⟨q, rfl, h⟩ ht)
    (fun l pre x a' W ⟨q, h, k⟩ => by subst h; exact hbody l pre x q W k) hdone hstop

end Go.Proofs.Ytgbphkbbedkepaa

/-
  A map's keys of a range, rising, by a range over a function that ranges over another one.
-/
namespace Go.Proofs.Ytgbphkbbedkepaa.ome
open Go.RowKit Go.Shelf
attribute [local go_sem] Oper.semAt_some wide_fn

/-- What stands below 'to' comes first. -/
theorem range_step {from' to : Int} {x : Tr Int N20} {pre : List (Int × N20)} {y : Int × N20} (hp : pre ++ [y] <+: Kept (fun k => ltI k from') x) (hb : ∀ p ∈ pre, ltI p.1 to = true) (hy : ltI y.1 to = true) :
    pre ++ [y] <+: rangeK ltI x.flat from' to := by
  obtain ⟨r, hr⟩ := hp
  have e : rangeK ltI x.flat from' to = (Kept (fun k => ltI k from') x).filter fun p => ltI p.1 to := by
    unfold rangeK Kept
    rw [List.filter_filter]
    congr 1
    funext p
    rw [Bool.and_comm]
  rw [e, ← hr, List.filter_append]
  refine ⟨r.filter fun p => ltI p.1 to, ?_⟩
  congr 1
  rw [List.filter_eq_self.2]
  intro p hp
  rcases List.mem_append.1 hp with h | h
  · exact hb p h
  · rw [List.mem_singleton.1 h]; exact hy
theorem range_end {from' to : Int} {x : Tr Int N20} {pre : List (Int × N20)} {y : Int × N20} (hu : Up ltI x.flat) (hp : pre ++ [y] <+: Kept (fun k => ltI k from') x) (hb : ∀ p ∈ pre, ltI p.1 to = true) (hy : ltI y.1 to = false) :
    pre = rangeK ltI x.flat from' to := by
  obtain ⟨r, hr⟩ := hp
  have e : rangeK ltI x.flat from' to = (Kept (fun k => ltI k from') x).filter fun p => ltI p.1 to := by
    unfold rangeK Kept
    rw [List.filter_filter]
    congr 1
    funext p
    rw [Bool.and_comm]
  have hk : Up ltI (Kept (fun k => ltI k from') x) := by
    have h1 : List.Pairwise (fun a b : Int × N20 => ltI a.1 b.1 = true) x.flat := by
      rw [List.pairwise_iff_getElem]
      intro i j hi hj hij
      exact hu i j _ _ hij (List.getElem?_eq_getElem hi) (List.getElem?_eq_getElem hj)
    have h2 := h1.filter (fun p => !(fun k => ltI k from') p.1)
    rw [List.pairwise_iff_getElem] at h2
    intro i j a b hij ha hb
    obtain ⟨hi, ea⟩ := List.getElem?_eq_some_iff.1 ha
    obtain ⟨hj, eb⟩ := List.getElem?_eq_some_iff.1 hb
    have := h2 i j hi hj hij
    rw [← ea, ← eb]
    exact this
  rw [e, ← hr, List.append_assoc, List.filter_append, List.filter_eq_self.2 hb]
  have h3 : ([y] ++ r).filter (fun p => ltI p.1 to) = [] := by
    rw [List.filter_eq_nil_iff]
    intro p hp
    rcases List.mem_append.1 hp with h | h
    · rw [List.mem_singleton.1 h, hy]; simp
    · obtain ⟨i, hi, e2⟩ := List.mem_iff_getElem.1 h
      have h4 : ltI y.1 p.1 = true := by
        refine hk pre.length (pre.length + 1 + i) y p (by omega) ?_ ?_
        · rw [← hr, List.append_assoc, List.getElem?_append_right (Nat.le_refl _), Nat.sub_self]; rfl
        · rw [← hr, List.getElem?_append_right (by simp), show pre.length + 1 + i - (pre ++ [y]).length = i by simp, List.getElem?_eq_getElem hi, e2]
      intro h5
      have := rises_ltI.tr _ _ _ h4 h5
      rw [hy] at this
      cases this
  rw [h3, List.append_nil]
theorem range_all {from' to : Int} {x : Tr Int N20} {xs : List (Int × N20)} (hx : xs = Kept (fun k => ltI k from') x) (hb : ∀ p ∈ xs, ltI p.1 to = true) : xs = rangeK ltI x.flat from' to := by
  have e : rangeK ltI x.flat from' to = (Kept (fun k => ltI k from') x).filter fun p => ltI p.1 to := by
    unfold rangeK Kept
    rw [List.filter_filter]
    congr 1
    funext p
    rw [Bool.and_comm]
  rw [e, ← hx, List.filter_eq_self.2 hb]

theorem round_in {F : Fence} {n : Nat} {P : Program} {l : Nat} {f : FuncId} {tmps : Array Value} {assign body : Code} {w : World} {R : Ending → World → Prop} (l0 : Nat) (h : RoundIn F n P l f tmps assign body w R) : RoundIn (F.inRound l0) n P l f tmps assign body w R := h

set_option maxRecDepth 100000 in
theorem below_any (q : Nat) (from' key : Int) (w : World) (hq : w.cell? ⟨q, 0, none⟩ = some (.int .i64 from')) :
    Calls Try.prog 68 #[.int .i64 key, .pointer (some ⟨q, 0, none⟩)] w fun e w' => e = .returned (.bool (ltI key from')) ∧ w = w' := by
  go_enter Try.func68, Try.ntmps68
  go_wp2_with (go_at_call 45; refine (less_any _ _ _).mono ?_; rintro e w' ⟨rfl, rfl⟩)
  go_ret
  exact ⟨rfl, rfl⟩

/-- What Range makes, of a map whose list is L. -/
structure RangeAt (w' : World) (qr qt qf q1 q2 : Nat) (from' to : Int) (L : List (Int × N20)) : Prop where
  rest : Box w' qr 70 #[RisV q1 q2]
  top : Box w' qt 2 #[.int .i64 to]
  low : Box w' qf 2 #[.int .i64 from']
  src : ∃ A x, Src w' q1 q2 A 68 #[.pointer (some ⟨qf, 0, none⟩)] x (fun k => ltI k from') ∧ x.flat = L

set_option maxRecDepth 100000 in
set_option maxHeartbeats 4000000 in
theorem range_feeds5 (n : Nat) {w : World} {qr qt qf q1 q2 : Nat} {from' to : Int} {L : List (Int × N20)} (h : RangeAt w qr qt qf q1 q2 from' to L) (S : Nat → Prop) (h1 : ¬ S qr) (h2 : ¬ S qt) (h3 : ¬ S qf) (h4 : ¬ S q1) (h5 : ¬ S q2) (hB : Base S w) :
    Feeds5 n 69 #[.pointer (some ⟨qr, 0, none⟩), .pointer (some ⟨qt, 0, none⟩)] prs S (fun pre y _ => pre ++ [y] <+: rangeK ltI L from' to) (fun xs => xs = rangeK ltI L from' to) (fun pre => pre <+: rangeK ltI L from' to) w := fun l J Jx W hW hlW hSW hJ hJx hY h0 => by
  obtain ⟨A, x, hs, hf⟩ := h.src
  have hWS : Turn S w W := hW.none
  have HRest := Lib.hid (h.rest.turn hWS h1)
  have HTop := Lib.hid (h.top.turn hWS h2)
  have HJ := Lib.hid hJ; have HJx := Lib.hid hJx; have HY := Lib.hid hY; have H0 := Lib.hid h0
  have HH := Lib.hid h; have HS := Lib.hid hs; have HF := Lib.hid hf; have HB := Lib.hid hB; have HW := Lib.hid hW; have HWS := Lib.hid hWS
  have HLW := Lib.hid hlW; have HSW := Lib.hid hSW
  have HN : Hid (¬ S qr ∧ ¬ S qt ∧ ¬ S qf ∧ ¬ S q1 ∧ ¬ S q2) := ⟨h1, h2, h3, h4, h5⟩
  have hcr := (HRest.out.alloc (.cells #[.func (.yield l) #[] #[]] 93)).cell 0
  clear hlW hSW hJ hJx hY h0 h hs hf hB hW hWS h1 h2 h3 h4 h5
  refine calls_depth (m := 5) ?_
  refine callsIn_of_wp_marks Try.func69 rfl trivial ?_ rfl
  simp only [Try.ntmps69, List.size_toArray, List.length_cons, List.length_nil, Nat.reduceAdd, Nat.reduceSub, Array.replicate_succ, Array.replicate_zero, List.push_toArray, List.append_toArray, List.nil_append, List.cons_append]
  gi_wp2_with fail
  obtain ⟨W1, hW1⟩ : ∃ W1, W1 = W.alloc (.cells #[.func (.yield l) #[] #[]] 93) := ⟨_, rfl⟩
  have HT1 : Hid (Turn (fun _ => False) W W1) := by rw [hW1]; exact (Turn.refl _ W).alloc _
  have HYB : Hid (Box W1 W.heap.size 93 #[.func (.yield l) #[] #[]]) := by rw [hW1]; exact Box.new W _ _
  have HSZ : Hid (W1.heap.size = W.heap.size + 1) := by show W1.heap.size = _; rw [hW1]; simp
  rw [← hW1]
  clear hW1 hcr
  have HSi : Hid (∀ k, (S k ∨ W1.heap.size ≤ k) → S k ∨ w.heap.size ≤ k) := fun k h => h.imp id (fun e => by have := HW.out.size; have := HSZ.out; omega)
  have HBi : Hid (Base (fun k => S k ∨ W1.heap.size ≤ k) w) := ⟨fun g cs hb e => by
    rcases HSi.out g e with h | h
    · exact HB.out.far g cs hb h
    · have := hb.lt; omega⟩
  have HNi : Hid (∀ q, q < w.heap.size → ¬ S q → ¬ (S q ∨ W1.heap.size ≤ q)) := fun q hq hn e => by
    rcases HSi.out q e with h | h
    · exact hn h
    · omega
  have hlt1 := HS.out.root.lt
  have hlt2 := HS.out.fun'.lt
  have HQT : Hid (qt < W.heap.size) := Nat.lt_of_lt_of_le HH.out.top.lt HW.out.size
  have HFD := Lib.hid (rising_feeds3 4 HS.out (fun k => S k ∨ W1.heap.size ≤ k) (HNi.out q1 hlt1 HN.out.2.2.2.1) (HNi.out q2 hlt2 HN.out.2.2.2.2) HBi.out
    (fun key W' ht => below_any qf from' key W' ((HH.out.low.turn ht (HNi.out qf HH.out.low.lt HN.out.2.2.1)).cell 0)))
  clear hlt1 hlt2
  unfold RisV
  refine' over5 (n := 5) (by omega) (gf := 77) (lb := #[.pointer (some ⟨q1, 0, none⟩), .pointer (some ⟨q2, 0, none⟩)]) rfl (enters_of Try.func77 (by kernel_rfl) rfl)
    HFD.out (HW.out.trans HT1.out (fun _ _ f => f)) (Or.inr (Nat.le_succ _)) (fun _ => rfl) _
    (fun (pre : List (Int × N20)) V => J W1.heap.size pre V ∧ (∀ p ∈ pre, ltI p.1 to = true) ∧ Box V W.heap.size 93 #[.func (.yield l) #[] #[]] ∧ Box V qt 2 #[.int .i64 to])
    (fun c xs V => c = .ret ∧ ((∃ B pre, J B pre V ∧ pre = rangeK ltI L from' to) ∨ (Jx xs V ∧ xs <+: rangeK ltI L from' to)))
    ?hI ?hIx ?h0
    (fun pre y q V => (J W1.heap.size pre V ∧ (∀ p ∈ pre, ltI p.1 to = true) ∧ Box V W.heap.size 93 #[.func (.yield l) #[] #[]] ∧ Box V qt 2 #[.int .i64 to]) ∧ Box V q 32 (ecells20 y.2) ∧ pre ++ [y] <+: Kept (fun k => ltI k from') x)
    ?hax ?assign ?body ?done ?stop
  case hI =>
    intro s V V' ⟨h1, h2, h3, h4⟩ ht
    exact ⟨(HJ.out _).le (by have := HSZ.out; omega) _ _ _ h1 ht, h2, h3.odd ht, h4.odd ht⟩
  case hIx =>
    intro c s V V' ⟨h1, h2⟩ ht
    refine ⟨h1, h2.imp (fun ⟨B, pre, h3, h4⟩ => ⟨B, pre, (HJ.out _).le (by have := HSZ.out; omega) _ _ _ h3 ht, h4⟩) (fun ⟨h3, h4⟩ => ⟨HJx.out.le (by have := HSZ.out; omega) _ _ _ h3 ht, h4⟩)⟩
  case hax =>
    intro pre y q V V' ⟨⟨h1, h2, h3, h4⟩, h5, h6⟩ ht
    exact ⟨⟨(HJ.out _).le (by have := HSZ.out; omega) _ _ _ h1 ht, h2, h3.odd ht, h4.odd ht⟩, h5.odd ht, h6⟩
  case h0 => exact ⟨H0.out _ HT1.out, fun p h => by simp at h, HYB.out, HTop.out.turn HT1.out (fun f => f)⟩
  case assign =>
    intro l0 pre x0 Wa K hi hgv hK
    obtain ⟨h1, h2, h3, h4⟩ := hi
    have HK := Lib.hid hK
    have HT : Hid (Turn (fun _ => False) Wa (Wa.alloc (.cells (ecells20 x0.2) 32))) := (Turn.refl _ Wa).alloc _
    have HBX : Hid ((J W1.heap.size pre (Wa.alloc (.cells (ecells20 x0.2) 32)) ∧ (∀ p ∈ pre, ltI p.1 to = true) ∧ Box (Wa.alloc (.cells (ecells20 x0.2) 32)) W.heap.size 93 #[.func (.yield l) #[] #[]] ∧ Box (Wa.alloc (.cells (ecells20 x0.2) 32)) qt 2 #[.int .i64 to]) ∧ Box (Wa.alloc (.cells (ecells20 x0.2) 32)) Wa.heap.size 32 (ecells20 x0.2) ∧ pre ++ [x0] <+: Kept (fun k => ltI k from') x) :=
      ⟨⟨HJ.out _ _ _ _ h1 HT.out.none, h2, h3.alloc _, h4.alloc _⟩, Box.new Wa _ _, hgv⟩
    clear hK h1 h2 h3 h4 hgv
    gi_wp2
    generalize Wa.alloc (.cells (ecells20 x0.2) 32) = V2 at *
    generalize Wa.heap.size = p at *
    exact HK.out p _ HBX.out HT.out
  case body =>
    rintro l0 pre y q V ⟨⟨h1, h2, h3, h4⟩, h5, hgv⟩
    have ht0 := h4.cell 0
    have hy0 := h3.cell 0
    obtain ⟨v0, v1, v2, v3, v4, v5⟩ := ent_box h5
    have HJ1 := Lib.hid h1; have H2 := Lib.hid h2; have H3 := Lib.hid h3; have H4 := Lib.hid h4; have HG := Lib.hid hgv
    clear h1 h2 h3 h4 h5 hgv
    cases hlt : ltI y.1 to with
    | false =>
      have HL : Hid (∀ W, Calls Try.prog 45 #[.int .i64 y.1, .int .i64 to] W fun e w' => e = .returned (.bool false) ∧ W = w') := fun W => by have := less_any y.1 to W; rw [hlt] at this; exact this
      have HE : Hid (pre = rangeK ltI L from' to) := by have := range_end HS.out.up HG.out H2.out hlt; rw [HF.out] at this; exact this
      clear hlt
      gi_wp2_with fail
      refine (CallsIn.inRound l0 (callsIn_wide.2 (HL.out _))).mono ?_
      rintro e w2 ⟨rfl, rfl⟩
      gi_wp2
      exact ⟨Still.refl _ _, rfl, .inl ⟨_, pre, HJ1.out, HE.out⟩⟩
    | true =>
      have HL : Hid (∀ W, Calls Try.prog 45 #[.int .i64 y.1, .int .i64 to] W fun e w' => e = .returned (.bool true) ∧ W = w') := fun W => by have := less_any y.1 to W; rw [hlt] at this; exact this
      have HP : Hid (pre ++ [y] <+: rangeK ltI L from' to) := by have := range_step HG.out H2.out hlt; rw [HF.out] at this; exact this
      have H2' : Hid (∀ p ∈ pre ++ [y], ltI p.1 to = true) := fun p hp => by
        rcases List.mem_append.1 hp with h | h
        · exact H2.out p h
        · rw [List.mem_singleton.1 h]; exact hlt
      clear hlt
      obtain ⟨fn, tm, asg, bo, hy, hrr⟩ := yield_depth (m' := 5 - 1 - 1 - 1) (HY.out _ pre y V (by have := HSZ.out; omega) HJ1.out HP.out)
      have HRO := Lib.hid (round_in l0 hrr)
      clear hrr
      gi_wp2_with fail
      refine (CallsIn.inRound l0 (callsIn_wide.2 (HL.out _))).mono ?_
      rintro e w2 ⟨rfl, rfl⟩
      dsimp only [prs] at hy
      gi_wp2_with fail
      refine HRO.out.mono ?_
      rintro e V2 (⟨rfl, hj2, ht2, hs2⟩ | ⟨rfl, hx2, hs2⟩)
      · have HJ2 := Lib.hid hj2; have HT2 := Lib.hid ht2; have HS2 := Lib.hid hs2
        clear hj2 ht2 hs2
        gi_wp2
        refine ⟨HS2.out.le (by have := HLW.out; have := HSZ.out; omega), HT2.out, HJ2.out, H2'.out, H3.out.turn HT2.out (fun h => ?_), H4.out.turn HT2.out (fun h => ?_)⟩
        · rcases h with h | h
          · exact Nat.lt_irrefl _ (HSW.out _ h)
          · have := HSZ.out; omega
        · rcases h with h | h
          · exact HN.out.2.1 h
          · have := HSZ.out; have := HQT.out; omega
      · have HX2 := Lib.hid hx2; have HS2 := Lib.hid hs2
        clear hx2 hs2
        gi_wp2
        exact ⟨HS2.out.le (by have := HLW.out; have := HSZ.out; omega), rfl, .inr ⟨HX2.out, HP.out⟩⟩
  case done =>
    rintro D xs V hD hA ⟨h1, h2, h3, h4⟩ hK
    have hj : J W1.heap.size xs (V.putObj D (.deferred none)) := (HJ.out _).put _ h1 (by have := HSZ.out; omega) hK rfl
    have hr := range_all (from' := from') (to := to) hA h2
    rw [HF.out] at hr
    gi_wp2
    refine ⟨by simp, .inl ⟨_, _, rfl, run_takeDeferred hK, ?_⟩⟩
    exact ⟨_, results_none rfl _ _ _, ⟨_, rfl⟩, .inl ⟨_, xs, hr, hj⟩⟩
  case stop =>
    rintro D c0 pre V hD hP ⟨rfl, h⟩ hK
    have hj : (∃ B xs, xs = rangeK ltI L from' to ∧ J B xs (V.putObj D (.deferred none))) ∨ ∃ xs, xs <+: rangeK ltI L from' to ∧ Jx xs (V.putObj D (.deferred none)) :=
      h.imp (fun ⟨B, q, h3, h4⟩ => ⟨B, q, h4, (HJ.out _).put _ h3 (by have := HSZ.out; omega) hK rfl⟩) (fun ⟨h3, h4⟩ => ⟨pre, h4, HJx.out.put _ h3 (by have := HSZ.out; omega) hK rfl⟩)
    clear h
    gi_wp2
    refine ⟨by simp, .inl ⟨_, _, rfl, run_takeDeferred hK, ?_⟩⟩
    exact ⟨_, results_none rfl _ _ _, ⟨_, rfl⟩, hj⟩

/-- The value that Range makes. -/
def RngV (qr qt : Nat) : Value := .func (.func 69) #[] #[.pointer (some ⟨qr, 0, none⟩), .pointer (some ⟨qt, 0, none⟩)]
structure Rng (w w' : World) (qr qt qf q1 q2 : Nat) (from' to : Int) (L : List (Int × N20)) : Prop where
  at' : RangeAt w' qr qt qf q1 q2 from' to L
  new : w.heap.size ≤ qr ∧ w.heap.size ≤ qt ∧ w.heap.size ≤ qf ∧ w.heap.size ≤ q1 ∧ w.heap.size ≤ q2
  turn : Turn (fun _ => False) w w'
def RangePost (w : World) (from' to : Int) (L : List (Int × N20)) (e : Ending) (w' : World) : Prop := ∃ qr qt qf q1 q2, e = .returned (RngV qr qt) ∧ Rng w w' qr qt qf q1 q2 from' to L
theorem rng_of {w w1 w3 : World} {q1 q2 : Nat} {from' to : Int} {L : List (Int × N20)}
    (hw1 : w1 = (w.alloc (.cells #[.int .i64 from'] 2)).alloc (.cells #[.int .i64 to] 2)) (h : Ris w1 w3 q1 q2 68 #[.pointer (some ⟨w.heap.size, 0, none⟩)] L) :
    Rng w (w3.alloc (.cells #[RisV q1 q2] 70)) w3.heap.size (w.heap.size + 1) w.heap.size q1 q2 from' to L := by
  have t1 : Turn (fun _ => False) w w1 := by rw [hw1]; exact ((Turn.refl _ w).alloc _).alloc _
  have b1 : Box w1 w.heap.size 2 #[.int .i64 from'] := by rw [hw1]; exact (Box.new w _ _).alloc _
  have b2 : Box w1 (w.heap.size + 1) 2 #[.int .i64 to] := by
    have := Box.new (w.alloc (.cells #[.int .i64 from'] 2)) 2 #[.int .i64 to]
    rw [World.size_alloc] at this
    rw [hw1]; exact this
  have t3 : Turn (fun _ => False) w1 (w3.alloc (.cells #[RisV q1 q2] 70)) := h.turn.alloc _
  have t4 : Turn (fun _ => False) w3 (w3.alloc (.cells #[RisV q1 q2] 70)) := (Turn.refl _ w3).alloc _
  obtain ⟨A, x, hb1, hb2, hx, hf⟩ := h.out
  have s1 := t1.size
  have s3 := h.turn.size
  refine ⟨⟨Box.new w3 _ _, b2.turn t3 (fun f => f), b1.turn t3 (fun f => f), A, x, ⟨hb1.alloc _, hb2.alloc _, hx.later t4, by rw [hf]; exact h.up, enters_of Try.func68 (by kernel_rfl) rfl, fun a b hab hb => rises_ltI.tr _ _ _ hab hb⟩, hf⟩, ⟨by omega, by omega, Nat.le_refl _, Nat.le_trans s1 h.new1, Nat.le_trans s1 h.new2⟩, t1.trans t3 (fun _ _ f => f)⟩

set_option maxRecDepth 100000 in
theorem range_any {w : World} {g : Nat} {L : List (Int × N20)} (from' to : Int) (h : MP w g L) :
    Calls Try.prog 48 #[.pointer (some ⟨g, 0, none⟩), .int .i64 from', .int .i64 to] w fun e w' => RangePost w from' to L e w' := by
  obtain ⟨w1, hw1⟩ : ∃ w1, w1 = (w.alloc (.cells #[.int .i64 from'] 2)).alloc (.cells #[.int .i64 to] 2) := ⟨_, rfl⟩
  have HR := Lib.hid (rising_any 68 #[.pointer (some ⟨w.heap.size, 0, none⟩)] (h.later (w' := w1) (by rw [hw1]; exact ((Turn.refl _ w).alloc _).alloc _)))
  have HW1 := Lib.hid hw1
  clear h hw1
  go_enter Try.func48, Try.ntmps48
  go_wp2_with fail
  rw [← HW1.out]
  refine HR.out.mono ?_
  rintro e w3 ⟨q1, q2, rfl, hr⟩
  have HX := Lib.hid (rng_of HW1.out hr); clear hr
  have hcell := (Box.new w3 70 #[.nilFunc]).cell 0
  have hfree := (Box.new w3 70 #[.nilFunc]).free 0
  unfold RisV at *
  go_wp2
  go_ret
  exact ⟨w3.heap.size, w.heap.size + 1, w.heap.size, q1, q2, rfl, HX.out⟩
set_option maxRecDepth 100000 in
theorem range_nil (from' to : Int) (w : World) :
    Calls Try.prog 48 #[.pointer none, .int .i64 from', .int .i64 to] w fun e w' => RangePost w from' to [] e w' := by
  obtain ⟨w1, hw1⟩ : ∃ w1, w1 = (w.alloc (.cells #[.int .i64 from'] 2)).alloc (.cells #[.int .i64 to] 2) := ⟨_, rfl⟩
  have HR := Lib.hid (rising_nil 68 #[.pointer (some ⟨w.heap.size, 0, none⟩)] w1)
  have HW1 := Lib.hid hw1
  clear hw1
  go_enter Try.func48, Try.ntmps48
  go_wp2_with fail
  rw [← HW1.out]
  refine HR.out.mono ?_
  rintro e w3 ⟨q1, q2, rfl, hr⟩
  have HX := Lib.hid (rng_of HW1.out hr); clear hr
  have hcell := (Box.new w3 70 #[.nilFunc]).cell 0
  have hfree := (Box.new w3 70 #[.nilFunc]).free 0
  unfold RisV at *
  go_wp2
  go_ret
  exact ⟨w3.heap.size, w.heap.size + 1, w.heap.size, q1, q2, rfl, HX.out⟩

end Go.Proofs.Ytgbphkbbedkepaa.ome

/-
  Stage 20: the program's around.
-/
namespace Go.Proofs.Ytgbphkbbedkepaa
open Go.RowKit

set_option maxRecDepth 100000

/-- Behind around: a range over the map from an hour on. -/
def Around20 (w : World) (lo to : Int) (L : List (Int × N20)) (e : Ending) (w' : World) : Prop := ∃ qr qt qf q1 q2, e = .returned (ome.RngV qr qt) ∧ ome.RangeAt w' qr qt qf q1 q2 lo to L ∧ (w.heap.size ≤ qr ∧ w.heap.size ≤ qt ∧ w.heap.size ≤ qf ∧ w.heap.size ≤ q1 ∧ w.heap.size ≤ q2) ∧ Turn (fun _ => False) w w'

set_option maxHeartbeats 4000000 in
theorem around_gen20 (a : Option Addr) {w : World} {L : List (Int × N20)} (lo f to : Int) (hth : ∀ W, Calls Try.prog 26 #[.pointer a] W fun e w' => e = .returned (.pointer a) ∧ W = w')
    (hfl : Calls Try.prog 27 #[.pointer a, .int .i64 lo] w fun e w' => e = .returned (ome.floorA (floorK ltI L lo)) ∧ Turn (fun _ => False) w w')
    (hrg : ∀ (f : Int) W, Turn (fun _ => False) w W → Calls Try.prog 48 #[.pointer a, .int .i64 f, .int .i64 9223372036854775807] W fun e w' => ome.RangePost W f 9223372036854775807 L e w') (hf : f = match floorK ltI L lo with | some q => q.1 | none => 0) (hto : to = 9223372036854775807) :
    Calls Try.prog 32 #[.pointer a, .int .i64 lo] w fun e w' => Around20 w f to L e w' := by
  have HF := Lib.hid hfl; have HTH := Lib.hid hth
  have HRG : Hid (∀ (f : Int) W, Turn (fun _ => False) w W → Calls Try.prog 48 #[.pointer a, .int .i64 f, .int .i64 9223372036854775807] W fun e w' => ome.RangePost W f to L e w') := fun f W ht => by rw [hto]; exact hrg f W ht
  have HFF := Lib.hid hf
  clear hth hfl hrg hf hto
  generalize floorK ltI L lo = G at *
  cases G with
  | none =>
    obtain ⟨EE, hEE⟩ : ∃ EE : N20, EE = zero20 := ⟨_, rfl⟩
    go_enter Try.func32, Try.ntmps32
    go_wp2_with fail
    refine (HTH.out w).mono ?_
    rintro e' wx ⟨rfl, rfl⟩
    go_wp2_with fail
    refine HF.out.mono ?_
    rintro e' w1 ⟨rfl, t1⟩
    unfold ome.floorA
    obtain ⟨w2, hw2⟩ : ∃ w2, w2 = w1.alloc (.cells #[.int .i64 EE.p.t, .int .i64 EE.p.i, .int .i64 EE.seg, .int .i64 EE.mark, .int .i64 EE.rows, .bool EE.cold] 32) := ⟨_, rfl⟩
    have HT2 : Hid (Turn (fun _ => False) w w2) := by rw [hw2]; exact t1.alloc _
    have HSZ : Hid (w.heap.size ≤ w2.heap.size) := HT2.out.size
    clear t1 HF
    rw [hEE] at hw2
    go_wp2_with fail
    rw [← hw2]
    clear hw2
    refine (HTH.out w2).mono ?_
    rintro e' wx ⟨rfl, rfl⟩
    go_wp2_with fail
    refine (HRG.out _ w2 HT2.out).mono ?_
    rintro e' w3 ⟨qr, qt, qf, q1, q2, rfl, hr⟩
    have HR := Lib.hid hr
    clear hr
    unfold ome.RngV
    go_wp2
    go_ret
    have h0 := HSZ.out
    have hn := HR.out.new
    exact ⟨qr, qt, qf, q1, q2, rfl, by rw [HFF.out]; exact HR.out.at', ⟨by omega, by omega, by omega, by omega, by omega⟩, HT2.out.trans HR.out.turn (fun _ _ f => f)⟩
  | some q =>
    obtain ⟨s, EE⟩ := q
    go_enter Try.func32, Try.ntmps32
    go_wp2_with fail
    refine (HTH.out w).mono ?_
    rintro e' wx ⟨rfl, rfl⟩
    go_wp2_with fail
    refine HF.out.mono ?_
    rintro e' w1 ⟨rfl, t1⟩
    unfold ome.floorA
    obtain ⟨w2, hw2⟩ : ∃ w2, w2 = w1.alloc (.cells #[.int .i64 EE.p.t, .int .i64 EE.p.i, .int .i64 EE.seg, .int .i64 EE.mark, .int .i64 EE.rows, .bool EE.cold] 32) := ⟨_, rfl⟩
    have HT2 : Hid (Turn (fun _ => False) w w2) := by rw [hw2]; exact t1.alloc _
    have HSZ : Hid (w.heap.size ≤ w2.heap.size) := HT2.out.size
    clear t1 HF
    go_wp2_with fail
    rw [← hw2]
    clear hw2
    refine (HTH.out w2).mono ?_
    rintro e' wx ⟨rfl, rfl⟩
    go_wp2_with fail
    refine (HRG.out _ w2 HT2.out).mono ?_
    rintro e' w3 ⟨qr, qt, qf, q1, q2, rfl, hr⟩
    have HR := Lib.hid hr
    clear hr
    unfold ome.RngV
    go_wp2
    go_ret
    have h0 := HSZ.out
    have hn := HR.out.new
    exact ⟨qr, qt, qf, q1, q2, rfl, by rw [HFF.out]; exact HR.out.at', ⟨by omega, by omega, by omega, by omega, by omega⟩, HT2.out.trans HR.out.turn (fun _ _ f => f)⟩
theorem around_any20 {w : World} {g : Nat} {L : List (Int × N20)} (lo f to : Int) (hm : ome.MP w g L) (hf : f = match floorK ltI L lo with | some q => q.1 | none => 0) (hto : to = 9223372036854775807) :
    Calls Try.prog 32 #[.pointer (some ⟨g, 0, none⟩), .int .i64 lo] w fun e w' => Around20 w f to L e w' :=
  around_gen20 _ lo f to (there_any20 g) (ome.floor_any lo hm) (fun f _ ht => ome.range_any f _ (hm.later ht)) hf hto
theorem around_nil20 (lo to : Int) (w : World) (hto : to = 9223372036854775807) : Calls Try.prog 32 #[.pointer none, .int .i64 lo] w fun e w' => Around20 w 0 to [] e w' :=
  around_gen20 none lo 0 to there_nil20 (ome.floor_nil lo w) (fun f W _ => ome.range_nil f _ W) rfl hto

end Go.Proofs.Ytgbphkbbedkepaa
