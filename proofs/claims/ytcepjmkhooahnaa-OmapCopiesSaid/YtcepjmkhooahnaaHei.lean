
/-
  A tree's least key; a tree in which a key has no value (keys int64, values string).
-/
import Derived.Test.YtcepjmkhooahnaaHdi
namespace Go.Proofs.Ytcepjmkhooahnaa.omi
open Go.RowKit

/-- A tree, perhaps empty, whose list is L. -/
def Has0 (w w' : World) (e : Ending) (L : List (Int × (List UInt8))) : Prop := ∃ (y : Tr Int (List UInt8)) (A : Option Addr), y.flat = L ∧ e = .returned (.pointer A) ∧ Nd w' y (.pointer A) ∧ Turn (fun _ => False) w w'
/-- How many nodes a tree has, as its top says. -/
def szAt (w : World) : Value → Nat
  | .pointer (some a) => match w.cell? ⟨a.block, 4, none⟩ with
    | some (.int _ n) => n.toNat
    | _ => 0
  | _ => 0
theorem sz_is {w : World} {x : Tr Int (List UInt8)} {p : Value} (h : Nd w x p) : szAt w p = x.cnt := by
  cases x with
  | nil => obtain rfl : p = .pointer none := h; rfl
  | node l k v r =>
    obtain ⟨g, pl, pr, rfl, hg, _, _⟩ := nd_node h
    unfold szAt
    dsimp only
    rw [hg.cells.2.2.2.2]
    rfl

/-- A node with the least key of a tree. -/
def Least (w : World) (x : Tr Int (List UInt8)) (p : Value) : Prop := ∃ g k v pl pr n rest, p = .pointer (some ⟨g, 0, none⟩) ∧ One w g k v pl pr n ∧ x.flat = (k, v) :: rest
structure LeastRel (w : World) (x : Tr Int (List UInt8)) (p : Value) : Prop where
  out : ∃ (l r : Tr Int (List UInt8)) (k : Int) (v : (List UInt8)) (tl : List (Int × (List UInt8))), Nd w (.node l k v r) p ∧ x.flat = (Tr.node l k v r).flat ++ tl

set_option maxRecDepth 100000 in
set_option maxHeartbeats 1000000 in
theorem least_any {l r : Tr Int (List UInt8)} {k : Int} {v : (List UInt8)} {w : World} {p : Value} (h : Nd w (.node l k v r) p) :
    Calls Try.prog 61 #[p] w fun e w' => (∃ u, e = .returned u ∧ Least w (.node l k v r) u) ∧ w = w' := by
  have HR : Hid (LeastRel w (.node l k v r) p) := ⟨l, r, k, v, [], h, by rw [List.append_nil]⟩
  clear h
  generalize (Tr.node l k v r) = x at *
  go_enter Try.func61, Try.ntmps61
  go_wp2
  go_loop [0] (fun x0 => LeastRel w x x0) (fun x0 => szAt w x0)
  case atStart => exact HR.out
  case round =>
    obtain ⟨l, r, k, v, tl, hn, hf⟩ := hrel.out
    have HSZ := Lib.hid (sz_is hn)
    obtain ⟨g, pl, pr, rfl, hg, hl, hr⟩ := nd_node hn
    have hc2 := hg.cells.2.2.1
    have HG := Lib.hid hg; have HF := Lib.hid hf; clear hg hf hn hrel HR
    cases l with
    | nil =>
      obtain rfl : pl = .pointer none := hl
      clear hr
      go_wp2
      go_ret
      exact ⟨⟨_, rfl, g, k, v, _, _, _, _, rfl, HG.out, HF.out⟩, rfl⟩
    | node a k2 v2 b =>
      have HSL := Lib.hid (sz_is hl)
      have HL := Lib.hid hl
      obtain ⟨u, pa, pb, rfl, -, -, -⟩ := nd_node hl
      clear hl hr
      go_wp2
      go_round
      case rel => exact ⟨a, b, k2, v2, _, HL.out, by rw [HF.out, flat_node, List.append_assoc]⟩
      case measure => have h1 := HSZ.out; have h2 := HSL.out; rw [cnt_node] at h1; show szAt w _ < szAt w _; rw [h1, h2]; omega

set_option maxRecDepth 100000 in
set_option maxHeartbeats 4000000 in
theorem without_any (x : Tr Int (List UInt8)) : ∀ (k : Int) (w : World) (p : Value), Nd w x p → x.cnt ≤ 999999 → Up ltI x.flat →
    Calls Try.prog 45 #[p, (.int .i64 k)] w fun e w' => Has0 w w' e (dropK ltI x.flat k) := by
  induction x with
  | nil =>
    intro k w p h _ _
    obtain rfl : p = .pointer none := h
    go_enter Try.func45, Try.ntmps45
    go_wp2
    go_ret
    exact ⟨.nil, none, rfl, rfl, rfl, Turn.refl _ w⟩
  | node l k0 v0 r ihl ihr =>
    intro k w p h hs hu
    obtain ⟨g, pl, pr, rfl, hg, hl, hr⟩ := nd_node h
    have HG := keep1 hg; have HL := keeps hl; have HR := keeps hr
    obtain ⟨pl, rfl⟩ := hl.shape
    obtain ⟨pr, rfl⟩ := hr.shape
    obtain ⟨c0, -, c2, c3, -⟩ := hg.cells
    obtain ⟨hu1, hu2, hu3⟩ := up_parts hu
    rw [cnt_node] at hs
    clear h hg hu
    have HK : Hid (∀ W, Turn (fun _ => False) w W → (W.cell? ⟨g, 2, none⟩ = some (.pointer pl) ∧ W.cell? ⟨g, 3, none⟩ = some (.pointer pr)) ∧ Turn (fun _ => False) w W) :=
      fun W ht => ⟨⟨(HG.out W ht).cells.2.2.1, (HG.out W ht).cells.2.2.2.1⟩, ht⟩
    by_cases h1 : ltI k k0 = true
    · have hp : dropK ltI (Tr.node l k0 v0 r).flat k = dropK ltI l.flat k ++ (k0, v0) :: r.flat := drop_left rises_ltI (p := (k0, v0)) h1 r.flat l.flat
      rw [hp]
      have HC : Hid (∀ W, Calls Try.prog 58 #[(.int .i64 k), (.int .i64 k0)] W fun e w' => e = .returned (.int .i64 (-1)) ∧ W = w') := fun W => by have := compare_any k k0 W; rw [ord_lt h1] at this; exact this
      have HI : Hid (∀ W, Turn (fun _ => False) w W → Calls Try.prog 45 #[.pointer pl, (.int .i64 k)] W fun e w' => Has0 W w' e (dropK ltI l.flat k)) := fun W ht => ihl k W _ (HL.out W ht) (by omega) hu1
      clear ihl ihr hu1 hu2 hu3 hp h1 hl hr c2 c3
      go_enter Try.func45, Try.ntmps45
      go_wp2_with (go_at_call 58; refine (HC.out _).mono ?_; rintro e w' ⟨rfl, rfl⟩)
      go_region_held3 (fun W => (W.cell? ⟨g, 2, none⟩ = some (.pointer pl) ∧ W.cell? ⟨g, 3, none⟩ = some (.pointer pr)) ∧ Turn (fun _ => False) w W)
        ((refine HK.out _ ?_; repeat (first | with_reducible exact Turn.refl _ w | with_reducible exact HTC.out | with_reducible exact HTB.out | with_reducible exact HTA.out | with_reducible refine Turn.drew ?_ | with_reducible refine Turn.drewN ?_ _)))
        (first
          | (go_at_call 45; (with_reducible refine (HI.out _ ?_).mono ?_); exact (Turn.refl _ w).drew; rintro e w2 ⟨y, q, hy, rfl, hn, ht⟩; have HTA := Lib.hid ((Turn.refl _ w).drew.trans ht (fun _ _ f => f)); have HNA := Lib.hid hn; have HY := Lib.hid hy; clear hn ht hy)
          | (go_at_call 59; (with_reducible refine (over_any (g := g) (pr := .pointer pr) (HG.out _ ?_) HNA.out (HR.out _ ?_) ?_).mono ?_); exact HTA.out; exact HTA.out; (focus (have := cnt_drop HY.out; omega)); rintro e w3 ⟨q2, rfl, hn2, ht2⟩; have HTB := Lib.hid (HTA.out.trans ht2 (fun _ _ f => f)); have HNB := Lib.hid hn2; clear hn2 ht2)
          | (go_at_call 60; (with_reducible refine (even_any HNB.out ?_).mono ?_); (focus (have := cnt_drop HY.out; omega)); rintro e w4 ⟨z, hz, q3, rfl, hn3, ht3⟩; have HTC := Lib.hid (HTB.out.trans ht3 (fun _ _ f => f)); have HNC := Lib.hid hn3; have HZ := Lib.hid hz; clear hn3 ht3 hz) | fail)
      all_goals go_wp2
      all_goals go_ret
      all_goals exact ⟨z, _, by rw [HZ.out, flat_node, HY.out], rfl, HNC.out, HTC.out⟩
    · by_cases h2 : ltI k0 k = true
      · have hp : dropK ltI (Tr.node l k0 v0 r).flat k = l.flat ++ (k0, v0) :: dropK ltI r.flat k := drop_right (p := (k0, v0)) h2 r.flat l.flat (hu3.tr rises_ltI h2)
        rw [hp]
        have HC : Hid (∀ W, Calls Try.prog 58 #[(.int .i64 k), (.int .i64 k0)] W fun e w' => e = .returned (.int .i64 1) ∧ W = w') := fun W => by have := compare_any k k0 W; rw [ord_gt h2] at this; exact this
        have HI : Hid (∀ W, Turn (fun _ => False) w W → Calls Try.prog 45 #[.pointer pr, (.int .i64 k)] W fun e w' => Has0 W w' e (dropK ltI r.flat k)) := fun W ht => ihr k W _ (HR.out W ht) (by omega) hu2
        clear ihl ihr hu1 hu2 hu3 hp h1 h2 hl hr c2 c3
        go_enter Try.func45, Try.ntmps45
        go_wp2_with (go_at_call 58; refine (HC.out _).mono ?_; rintro e w' ⟨rfl, rfl⟩)
        go_region_held3 (fun W => (W.cell? ⟨g, 2, none⟩ = some (.pointer pl) ∧ W.cell? ⟨g, 3, none⟩ = some (.pointer pr)) ∧ Turn (fun _ => False) w W)
          ((refine HK.out _ ?_; repeat (first | with_reducible exact Turn.refl _ w | with_reducible exact HTC.out | with_reducible exact HTB.out | with_reducible exact HTA.out | with_reducible refine Turn.drew ?_ | with_reducible refine Turn.drewN ?_ _)))
          (first
          | (go_at_call 45; (with_reducible refine (HI.out _ ?_).mono ?_); exact (Turn.refl _ w).drew; rintro e w2 ⟨y, q, hy, rfl, hn, ht⟩; have HTA := Lib.hid ((Turn.refl _ w).drew.trans ht (fun _ _ f => f)); have HNA := Lib.hid hn; have HY := Lib.hid hy; clear hn ht hy)
          | (go_at_call 59; (with_reducible refine (over_any (g := g) (pl := .pointer pl) (HG.out _ ?_) (HL.out _ ?_) HNA.out ?_).mono ?_); exact HTA.out; exact HTA.out; (focus (have := cnt_drop HY.out; omega)); rintro e w3 ⟨q2, rfl, hn2, ht2⟩; have HTB := Lib.hid (HTA.out.trans ht2 (fun _ _ f => f)); have HNB := Lib.hid hn2; clear hn2 ht2)
          | (go_at_call 60; (with_reducible refine (even_any HNB.out ?_).mono ?_); (focus (have := cnt_drop HY.out; omega)); rintro e w4 ⟨z, hz, q3, rfl, hn3, ht3⟩; have HTC := Lib.hid (HTB.out.trans ht3 (fun _ _ f => f)); have HNC := Lib.hid hn3; have HZ := Lib.hid hz; clear hn3 ht3 hz) | fail)
        all_goals go_wp2
        all_goals go_ret
        all_goals exact ⟨z, _, by rw [HZ.out, flat_node, HY.out], rfl, HNC.out, HTC.out⟩
      · have he : k0 = k := by
          by_cases e : k0 = k
          · exact e
          · exact absurd (rises_ltI.tot _ _ e (by simpa using h2)) h1
        subst he
        have hp : dropK ltI (Tr.node l k0 v0 r).flat k0 = l.flat ++ r.flat := drop_same rises_ltI (p := (k0, v0)) r.flat l.flat hu3
        rw [hp]
        have HC : Hid (∀ W, Calls Try.prog 58 #[(.int .i64 k0), (.int .i64 k0)] W fun e w' => e = .returned (.int .i64 0) ∧ W = w') := fun W => by have := compare_any k0 k0 W; rw [ord_eq] at this; exact this
        clear hu1 hu3 hp h1 h2 ihl
        cases l with
        | nil =>
          have e : (Value.pointer pl) = .pointer none := hl
          cases e
          clear ihr hu2 hl hr
          go_enter Try.func45, Try.ntmps45
          go_wp2_with (go_at_call 58; refine (HC.out _).mono ?_; rintro e w' ⟨rfl, rfl⟩)
          go_ret
          exact ⟨r, pr, rfl, rfl, HR.out _ (Turn.refl _ w), Turn.refl _ w⟩
        | node a k2 v2 b =>
          cases r with
          | nil =>
            have e : (Value.pointer pr) = .pointer none := hr
            cases e
            obtain ⟨u, pa, pb, hpl, -, -, -⟩ := nd_node hl
            cases hpl
            clear ihr hu2 hl hr
            go_enter Try.func45, Try.ntmps45
            go_wp2_with (go_at_call 58; refine (HC.out _).mono ?_; rintro e w' ⟨rfl, rfl⟩)
            go_ret
            exact ⟨.node a k2 v2 b, _, by show _ = _ ++ []; rw [List.append_nil], rfl, HL.out _ (Turn.refl _ w), Turn.refl _ w⟩
          | node c k3 v3 d =>
            obtain ⟨u, pa, pb, hpl, -, -, -⟩ := nd_node hl
            cases hpl
            obtain ⟨t, pc, pd, hpr, -, -, -⟩ := nd_node hr
            cases hpr
            have HLS : Hid (Calls Try.prog 61 #[.pointer (some ⟨t, 0, none⟩)] w fun e w' => (∃ u, e = .returned u ∧ Least w (.node c k3 v3 d) u) ∧ w = w') := least_any hr
            have HI : Hid (∀ k W, Turn (fun _ => False) w W → Calls Try.prog 45 #[.pointer (some ⟨t, 0, none⟩), (.int .i64 k)] W fun e w' => Has0 W w' e (dropK ltI (Tr.node c k3 v3 d).flat k)) := fun k W ht => ihr k W _ (HR.out W ht) (by omega) hu2
            clear ihr hu2 hl hr
            obtain ⟨x1, hx1⟩ : ∃ x, x = Tr.node a k2 v2 b := ⟨_, rfl⟩
            obtain ⟨x2, hx2⟩ : ∃ x, x = Tr.node c k3 v3 d := ⟨_, rfl⟩
            rw [← hx1] at HL hs
            rw [← hx2] at HR HI HLS hs
            rw [← hx1, ← hx2]
            clear hx1 hx2 HG
            go_enter Try.func45, Try.ntmps45
            go_wp2_with (first
              | (go_at_call 58; refine (HC.out _).mono ?_; rintro e w' ⟨rfl, rfl⟩)
              | (go_at_call 61; refine HLS.out.mono ?_; rintro e w' ⟨⟨_, rfl, s, ks, vs, ps, pt, n, rest, rfl, hone, hflat⟩, rfl⟩; have HS := keep1 hone; have HF := Lib.hid hflat; clear hone hflat)
              | fail)
            have HK2 : Hid (∀ W, Turn (fun _ => False) w W → (W.cell? ⟨g, 2, none⟩ = some (.pointer (some ⟨u, 0, none⟩)) ∧ W.cell? ⟨g, 3, none⟩ = some (.pointer (some ⟨t, 0, none⟩)) ∧ W.cell? ⟨s, 0, none⟩ = some (.int .i64 ks)) ∧ Turn (fun _ => False) w W) :=
              fun W ht => ⟨⟨(HK.out W ht).1.1, (HK.out W ht).1.2, (HS.out W ht).cells.1⟩, ht⟩
            go_region_held3 (fun W => (W.cell? ⟨g, 2, none⟩ = some (.pointer (some ⟨u, 0, none⟩)) ∧ W.cell? ⟨g, 3, none⟩ = some (.pointer (some ⟨t, 0, none⟩)) ∧ W.cell? ⟨s, 0, none⟩ = some (.int .i64 ks)) ∧ Turn (fun _ => False) w W)
              ((refine HK2.out _ ?_; repeat (first | with_reducible exact Turn.refl _ w | with_reducible exact HTC.out | with_reducible exact HTB.out | with_reducible exact HTA.out | with_reducible refine Turn.drew ?_ | with_reducible refine Turn.drewN ?_ _)))
              (first
                | (go_at_call 45; (with_reducible refine (HI.out ks _ ?_).mono ?_); exact (Turn.refl _ w).drew; rintro e w2 ⟨y, q, hy, rfl, hn, ht⟩; have HTA := Lib.hid ((Turn.refl _ w).drew.trans ht (fun _ _ f => f)); have HNA := Lib.hid hn; have HY := Lib.hid hy; clear hn ht hy)
                | (go_at_call 59; (with_reducible refine (over_any (g := s) (pl := .pointer (some ⟨u, 0, none⟩)) (HS.out _ ?_) (HL.out _ ?_) HNA.out ?_).mono ?_); exact HTA.out; exact HTA.out; (focus (have := cnt_drop HY.out; omega)); rintro e w3 ⟨q2, rfl, hn2, ht2⟩; have HTB := Lib.hid (HTA.out.trans ht2 (fun _ _ f => f)); have HNB := Lib.hid hn2; clear hn2 ht2)
                | (go_at_call 60; (with_reducible refine (even_any HNB.out ?_).mono ?_); (focus (have := cnt_drop HY.out; omega)); rintro e w4 ⟨z, hz, q3, rfl, hn3, ht3⟩; have HTC := Lib.hid (HTB.out.trans ht3 (fun _ _ f => f)); have HNC := Lib.hid hn3; have HZ := Lib.hid hz; clear hn3 ht3 hz) | fail)
            all_goals go_wp2
            all_goals go_ret
            all_goals exact ⟨z, _, by rw [HZ.out, flat_node, HY.out, HF.out, drop_first rises_ltI (ks, vs)], rfl, HNC.out, HTC.out⟩

end Go.Proofs.Ytcepjmkhooahnaa.omi
