
/-
  A tree that is turned where one side is too heavy (keys string, values int).
-/
import Derived.Test.YtnapeckpjnbcgaaHbs
namespace Go.Proofs.Ytnapeckpjnbcgaa.oms
open Go.RowKit

/-- A tree with the same list. -/
def Same' (w w' : World) (e : Ending) (x : Tr (List UInt8) Int) : Prop := ∃ y : Tr (List UInt8) Int, y.flat = x.flat ∧ Tree w w' e y
theorem same_of {w w0 w' : World} {e : Ending} {x y : Tr (List UInt8) Int} (h : Tree w0 w' e y) (ht : Turn (fun _ => False) w w0) (hf : y.flat = x.flat) : Same' w w' e x := by
  obtain ⟨g, h1, h2, h3⟩ := h
  exact ⟨y, hf, g, h1, h2, ht.trans h3 (fun _ _ f => f)⟩
theorem keeps {w : World} {x : Tr (List UInt8) Int} {p : Value} (h : Nd w x p) : Hid (∀ W, Turn (fun _ => False) w W → Nd W x p) := fun _ ht => h.later ht
theorem keep1 {w : World} {g : Nat} {k : (List UInt8)} {v : Int} {pl pr : Value} {n : Nat} (h : One w g k v pl pr n) : Hid (∀ W, Turn (fun _ => False) w W → One W g k v pl pr n) := fun _ ht => h.later ht
theorem flat_node (l : Tr (List UInt8) Int) (k : (List UInt8)) (v : Int) (r : Tr (List UInt8) Int) : (Tr.node l k v r).flat = l.flat ++ (k, v) :: r.flat := rfl
theorem cnt_node (l : Tr (List UInt8) Int) (k : (List UInt8)) (v : Int) (r : Tr (List UInt8) Int) : (Tr.node l k v r).cnt = l.cnt + r.cnt + 1 := rfl

set_option maxRecDepth 100000 in
set_option maxHeartbeats 2000000 in
theorem turnLeft_any {l a b : Tr (List UInt8) Int} {k k2 : (List UInt8)} {v v2 : Int} {w : World} {p : Value} (h : Nd w (.node l k v (.node a k2 v2 b)) p) (hs : l.cnt + (a.cnt + b.cnt) ≤ 1000000) :
    Calls Try.prog 67 #[p] w fun e w' => Same' w w' e (.node l k v (.node a k2 v2 b)) := by
  obtain ⟨g, pl, pr, rfl, hg, hl, hr⟩ := nd_node h
  obtain ⟨u, pa, pb, rfl, hu, ha, hb⟩ := nd_node hr
  have HG := keep1 hg; have HU := keep1 hu; have HL := keeps hl; have HA := keeps ha; have HB := keeps hb
  obtain ⟨pl, rfl⟩ := hl.shape
  obtain ⟨pa, rfl⟩ := ha.shape
  obtain ⟨pb, rfl⟩ := hb.shape
  obtain ⟨-, -, c2, c3, -⟩ := hg.cells
  obtain ⟨-, -, d2, d3, -⟩ := hu.cells
  have HCA : Hid (∀ W, Turn (fun _ => False) w W → Calls Try.prog 41 #[.pointer pa] W fun e w' => e = .returned (.int .i64 (a.cnt : Int)) ∧ W = w') := fun W ht => count_any (HA.out W ht)
  have HCB : Hid (∀ W, Turn (fun _ => False) w W → Calls Try.prog 41 #[.pointer pb] W fun e w' => e = .returned (.int .i64 (b.cnt : Int)) ∧ W = w') := fun W ht => count_any (HB.out W ht)
  clear h hg hl hr hu ha hb
  by_cases hc : a.cnt + 1 < 2 * (b.cnt + 1)
  · have hc' : (a.cnt : Int) + 1 < 2 * ((b.cnt : Int) + 1) := by omega
    go_enter Try.func67, Try.ntmps67
    go_wp2_with fail
    go_quiet (first
      | (go_at_call 41; with_reducible exact quiet_left (HCA.out _ ((Turn.refl _ w).drewN _)))
      | (go_at_call 41; with_reducible exact quiet_left (HCB.out _ ((Turn.refl _ w).drewN _))))
    go_wp2_with fail
    have HK : Hid (∀ W, Turn (fun _ => False) w W → (W.cell? ⟨g, 2, none⟩ = some (.pointer pl) ∧ W.cell? ⟨u, 2, none⟩ = some (.pointer pa) ∧ W.cell? ⟨u, 3, none⟩ = some (.pointer pb)) ∧ Turn (fun _ => False) w W) :=
      fun W ht => ⟨⟨(HG.out W ht).cells.2.2.1, (HU.out W ht).cells.2.2.1, (HU.out W ht).cells.2.2.2.1⟩, ht⟩
    go_region_held3 (fun W => (W.cell? ⟨g, 2, none⟩ = some (.pointer pl) ∧ W.cell? ⟨u, 2, none⟩ = some (.pointer pa) ∧ W.cell? ⟨u, 3, none⟩ = some (.pointer pb)) ∧ Turn (fun _ => False) w W)
      ((refine HK.out _ ?_; repeat (first | with_reducible exact Turn.refl _ w | with_reducible exact HT2.out | with_reducible exact HT.out | with_reducible refine Turn.drew ?_ | with_reducible refine Turn.drewN ?_ _)))
      (first
        | (go_at_call 53; (with_reducible refine (over_any (g := g) (pl := .pointer pl) (pr := .pointer pa) (HG.out _ ?_) (HL.out _ ?_) (HA.out _ ?_) ?_).mono ?_); exact (Turn.refl _ w).drewN _; exact (Turn.refl _ w).drewN _; exact (Turn.refl _ w).drewN _; (focus (omega)); rintro e w2 ⟨q, rfl, hn, ht⟩; have HT := Lib.hid (((Turn.refl _ w).drewN _).trans ht (fun _ _ f => f)); have HN := Lib.hid hn; clear hn ht)
        | (go_at_call 53; (with_reducible refine (over_any (g := u) (pr := .pointer pb) (HU.out _ ?_) HN.out (HB.out _ ?_) ?_).mono ?_); exact HT.out; exact HT.out; (focus (rw [cnt_node]; omega)); rintro e w3 ⟨q2, rfl, hn2, ht2⟩; have HT2 := Lib.hid (HT.out.trans ht2 (fun _ _ f => f)); have HN2 := Lib.hid hn2; clear hn2 ht2)
        | fail)
    all_goals go_wp2
    all_goals go_ret
    all_goals exact ⟨_, by simp [flat_node], q2, rfl, HN2.out, HT2.out⟩
  · have hc' : ¬ (a.cnt : Int) + 1 < 2 * ((b.cnt : Int) + 1) := by omega
    cases a with
    | nil => exact absurd (show (0 : Nat) + 1 < 2 * (b.cnt + 1) by omega) hc
    | node c k3 v3 d =>
      obtain ⟨t, pc, pd, hpa, ht, hc2, hd2⟩ := nd_node (HA.out w (Turn.refl _ w))
      cases hpa
      have HT3 := keep1 ht; have HC := keeps hc2; have HD := keeps hd2
      obtain ⟨pc, rfl⟩ := hc2.shape
      obtain ⟨pd, rfl⟩ := hd2.shape
      obtain ⟨m, hm⟩ : ∃ m, m = (Tr.node c k3 v3 d).cnt := ⟨_, rfl⟩
      rw [← hm] at hs HCA hc'
      have HM := Lib.hid (hm.trans (cnt_node c k3 v3 d))
      clear ht hc2 hd2 hc hm
      go_enter Try.func67, Try.ntmps67
      go_wp2_with fail
      go_quiet (first
        | (go_at_call 41; with_reducible exact quiet_left (HCA.out _ ((Turn.refl _ w).drewN _)))
        | (go_at_call 41; with_reducible exact quiet_left (HCB.out _ ((Turn.refl _ w).drewN _))))
      have e2 := (HU.out _ ((Turn.refl _ w).drewN nq)).cells.2.2.1
      go_wp2_with fail
      have HK : Hid (∀ W, Turn (fun _ => False) w W → (W.cell? ⟨g, 2, none⟩ = some (.pointer pl) ∧ W.cell? ⟨t, 2, none⟩ = some (.pointer pc) ∧ W.cell? ⟨t, 3, none⟩ = some (.pointer pd) ∧ W.cell? ⟨u, 3, none⟩ = some (.pointer pb)) ∧ Turn (fun _ => False) w W) :=
        fun W ht => ⟨⟨(HG.out W ht).cells.2.2.1, (HT3.out W ht).cells.2.2.1, (HT3.out W ht).cells.2.2.2.1, (HU.out W ht).cells.2.2.2.1⟩, ht⟩
      go_region_held3 (fun W => (W.cell? ⟨g, 2, none⟩ = some (.pointer pl) ∧ W.cell? ⟨t, 2, none⟩ = some (.pointer pc) ∧ W.cell? ⟨t, 3, none⟩ = some (.pointer pd) ∧ W.cell? ⟨u, 3, none⟩ = some (.pointer pb)) ∧ Turn (fun _ => False) w W)
        ((refine HK.out _ ?_; repeat (first | with_reducible exact Turn.refl _ w | with_reducible exact HTC.out | with_reducible exact HTB.out | with_reducible exact HTA.out | with_reducible refine Turn.drew ?_ | with_reducible refine Turn.drewN ?_ _)))
        (first
          | (go_at_call 53; (with_reducible refine (over_any (g := g) (pl := .pointer pl) (pr := .pointer pc) (HG.out _ ?_) (HL.out _ ?_) (HC.out _ ?_) ?_).mono ?_); exact (Turn.refl _ w).drewN _; exact (Turn.refl _ w).drewN _; exact (Turn.refl _ w).drewN _; (focus (have := HM.out; omega)); rintro e w2 ⟨q, rfl, hn, ht⟩; have HTA := Lib.hid (((Turn.refl _ w).drewN _).trans ht (fun _ _ f => f)); have HNA := Lib.hid hn; clear hn ht)
          | (go_at_call 53; (with_reducible refine (over_any (g := u) (pl := .pointer pd) (pr := .pointer pb) (HU.out _ ?_) (HD.out _ ?_) (HB.out _ ?_) ?_).mono ?_); exact HTA.out; exact HTA.out; exact HTA.out; (focus (have := HM.out; omega)); rintro e w3 ⟨q2, rfl, hn2, ht2⟩; have HTB := Lib.hid (HTA.out.trans ht2 (fun _ _ f => f)); have HNB := Lib.hid hn2; have HNA2 := Lib.hid (HNA.out.later ht2); clear hn2 ht2)
          | (go_at_call 53; (with_reducible refine (over_any (g := t) (HT3.out _ ?_) HNA2.out HNB.out ?_).mono ?_); exact HTB.out; (focus (rw [cnt_node, cnt_node]; have := HM.out; omega)); rintro e w4 ⟨q3, rfl, hn3, ht3⟩; have HTC := Lib.hid (HTB.out.trans ht3 (fun _ _ f => f)); have HNC := Lib.hid hn3; clear hn3 ht3)
          | fail)
      all_goals go_wp2
      all_goals go_ret
      all_goals exact ⟨_, by simp [flat_node], q3, rfl, HNC.out, HTC.out⟩

set_option maxRecDepth 100000 in
set_option maxHeartbeats 2000000 in
theorem turnRight_any {a b r : Tr (List UInt8) Int} {k k2 : (List UInt8)} {v v2 : Int} {w : World} {p : Value} (h : Nd w (.node (.node a k2 v2 b) k v r) p) (hs : (a.cnt + b.cnt) + r.cnt ≤ 1000000) :
    Calls Try.prog 68 #[p] w fun e w' => Same' w w' e (.node (.node a k2 v2 b) k v r) := by
  obtain ⟨g, pl, pr, rfl, hg, hl, hr⟩ := nd_node h
  obtain ⟨u, pa, pb, rfl, hu, ha, hb⟩ := nd_node hl
  have HG := keep1 hg; have HU := keep1 hu; have HR := keeps hr; have HA := keeps ha; have HB := keeps hb
  obtain ⟨pr, rfl⟩ := hr.shape
  obtain ⟨pa, rfl⟩ := ha.shape
  obtain ⟨pb, rfl⟩ := hb.shape
  obtain ⟨-, -, c2, c3, -⟩ := hg.cells
  obtain ⟨-, -, d2, d3, -⟩ := hu.cells
  have HCA : Hid (∀ W, Turn (fun _ => False) w W → Calls Try.prog 41 #[.pointer pa] W fun e w' => e = .returned (.int .i64 (a.cnt : Int)) ∧ W = w') := fun W ht => count_any (HA.out W ht)
  have HCB : Hid (∀ W, Turn (fun _ => False) w W → Calls Try.prog 41 #[.pointer pb] W fun e w' => e = .returned (.int .i64 (b.cnt : Int)) ∧ W = w') := fun W ht => count_any (HB.out W ht)
  clear h hg hl hr hu ha hb
  by_cases hc : b.cnt + 1 < 2 * (a.cnt + 1)
  · have hc' : (b.cnt : Int) + 1 < 2 * ((a.cnt : Int) + 1) := by omega
    go_enter Try.func68, Try.ntmps68
    go_wp2_with fail
    go_quiet (first
      | (go_at_call 41; with_reducible exact quiet_left (HCA.out _ ((Turn.refl _ w).drewN _)))
      | (go_at_call 41; with_reducible exact quiet_left (HCB.out _ ((Turn.refl _ w).drewN _))))
    go_wp2_with fail
    have HK : Hid (∀ W, Turn (fun _ => False) w W → (W.cell? ⟨u, 2, none⟩ = some (.pointer pa) ∧ W.cell? ⟨u, 3, none⟩ = some (.pointer pb) ∧ W.cell? ⟨g, 3, none⟩ = some (.pointer pr)) ∧ Turn (fun _ => False) w W) :=
      fun W ht => ⟨⟨(HU.out W ht).cells.2.2.1, (HU.out W ht).cells.2.2.2.1, (HG.out W ht).cells.2.2.2.1⟩, ht⟩
    go_region_held3 (fun W => (W.cell? ⟨u, 2, none⟩ = some (.pointer pa) ∧ W.cell? ⟨u, 3, none⟩ = some (.pointer pb) ∧ W.cell? ⟨g, 3, none⟩ = some (.pointer pr)) ∧ Turn (fun _ => False) w W)
      ((refine HK.out _ ?_; repeat (first | with_reducible exact Turn.refl _ w | with_reducible exact HT2.out | with_reducible exact HT.out | with_reducible refine Turn.drew ?_ | with_reducible refine Turn.drewN ?_ _)))
      (first
        | (go_at_call 53; (with_reducible refine (over_any (g := g) (pl := .pointer pb) (pr := .pointer pr) (HG.out _ ?_) (HB.out _ ?_) (HR.out _ ?_) ?_).mono ?_); exact (Turn.refl _ w).drewN _; exact (Turn.refl _ w).drewN _; exact (Turn.refl _ w).drewN _; (focus (omega)); rintro e w2 ⟨q, rfl, hn, ht⟩; have HT := Lib.hid (((Turn.refl _ w).drewN _).trans ht (fun _ _ f => f)); have HN := Lib.hid hn; clear hn ht)
        | (go_at_call 53; (with_reducible refine (over_any (g := u) (pl := .pointer pa) (HU.out _ ?_) (HA.out _ ?_) HN.out ?_).mono ?_); exact HT.out; exact HT.out; (focus (rw [cnt_node]; omega)); rintro e w3 ⟨q2, rfl, hn2, ht2⟩; have HT2 := Lib.hid (HT.out.trans ht2 (fun _ _ f => f)); have HN2 := Lib.hid hn2; clear hn2 ht2)
        | fail)
    all_goals go_wp2
    all_goals go_ret
    all_goals exact ⟨_, by simp [flat_node], q2, rfl, HN2.out, HT2.out⟩
  · have hc' : ¬ (b.cnt : Int) + 1 < 2 * ((a.cnt : Int) + 1) := by omega
    cases b with
    | nil => exact absurd (show (0 : Nat) + 1 < 2 * (a.cnt + 1) by omega) hc
    | node c k3 v3 d =>
      obtain ⟨t, pc, pd, hpa, ht, hc2, hd2⟩ := nd_node (HB.out w (Turn.refl _ w))
      cases hpa
      have HT3 := keep1 ht; have HC := keeps hc2; have HD := keeps hd2
      obtain ⟨pc, rfl⟩ := hc2.shape
      obtain ⟨pd, rfl⟩ := hd2.shape
      obtain ⟨m, hm⟩ : ∃ m, m = (Tr.node c k3 v3 d).cnt := ⟨_, rfl⟩
      rw [← hm] at hs HCB hc'
      have HM := Lib.hid (hm.trans (cnt_node c k3 v3 d))
      clear ht hc2 hd2 hc hm
      go_enter Try.func68, Try.ntmps68
      go_wp2_with fail
      go_quiet (first
        | (go_at_call 41; with_reducible exact quiet_left (HCA.out _ ((Turn.refl _ w).drewN _)))
        | (go_at_call 41; with_reducible exact quiet_left (HCB.out _ ((Turn.refl _ w).drewN _))))
      have e2 := (HU.out _ ((Turn.refl _ w).drewN nq)).cells.2.2.2.1
      go_wp2_with fail
      have HK : Hid (∀ W, Turn (fun _ => False) w W → (W.cell? ⟨u, 2, none⟩ = some (.pointer pa) ∧ W.cell? ⟨t, 2, none⟩ = some (.pointer pc) ∧ W.cell? ⟨t, 3, none⟩ = some (.pointer pd) ∧ W.cell? ⟨g, 3, none⟩ = some (.pointer pr)) ∧ Turn (fun _ => False) w W) :=
        fun W ht => ⟨⟨(HU.out W ht).cells.2.2.1, (HT3.out W ht).cells.2.2.1, (HT3.out W ht).cells.2.2.2.1, (HG.out W ht).cells.2.2.2.1⟩, ht⟩
      go_region_held3 (fun W => (W.cell? ⟨u, 2, none⟩ = some (.pointer pa) ∧ W.cell? ⟨t, 2, none⟩ = some (.pointer pc) ∧ W.cell? ⟨t, 3, none⟩ = some (.pointer pd) ∧ W.cell? ⟨g, 3, none⟩ = some (.pointer pr)) ∧ Turn (fun _ => False) w W)
        ((refine HK.out _ ?_; repeat (first | with_reducible exact Turn.refl _ w | with_reducible exact HTC.out | with_reducible exact HTB.out | with_reducible exact HTA.out | with_reducible refine Turn.drew ?_ | with_reducible refine Turn.drewN ?_ _)))
        (first
          | (go_at_call 53; (with_reducible refine (over_any (g := u) (pl := .pointer pa) (pr := .pointer pc) (HU.out _ ?_) (HA.out _ ?_) (HC.out _ ?_) ?_).mono ?_); exact (Turn.refl _ w).drewN _; exact (Turn.refl _ w).drewN _; exact (Turn.refl _ w).drewN _; (focus (have := HM.out; omega)); rintro e w2 ⟨q, rfl, hn, ht⟩; have HTA := Lib.hid (((Turn.refl _ w).drewN _).trans ht (fun _ _ f => f)); have HNA := Lib.hid hn; clear hn ht)
          | (go_at_call 53; (with_reducible refine (over_any (g := g) (pl := .pointer pd) (pr := .pointer pr) (HG.out _ ?_) (HD.out _ ?_) (HR.out _ ?_) ?_).mono ?_); exact HTA.out; exact HTA.out; exact HTA.out; (focus (have := HM.out; omega)); rintro e w3 ⟨q2, rfl, hn2, ht2⟩; have HTB := Lib.hid (HTA.out.trans ht2 (fun _ _ f => f)); have HNB := Lib.hid hn2; have HNA2 := Lib.hid (HNA.out.later ht2); clear hn2 ht2)
          | (go_at_call 53; (with_reducible refine (over_any (g := t) (HT3.out _ ?_) HNA2.out HNB.out ?_).mono ?_); exact HTB.out; (focus (rw [cnt_node, cnt_node]; have := HM.out; omega)); rintro e w4 ⟨q3, rfl, hn3, ht3⟩; have HTC := Lib.hid (HTB.out.trans ht3 (fun _ _ f => f)); have HNC := Lib.hid hn3; clear hn3 ht3)
          | fail)
      all_goals go_wp2
      all_goals go_ret
      all_goals exact ⟨_, by simp [flat_node], q3, rfl, HNC.out, HTC.out⟩

set_option maxRecDepth 100000 in
set_option maxHeartbeats 2000000 in
theorem even_any {l r : Tr (List UInt8) Int} {k : (List UInt8)} {v : Int} {w : World} {p : Value} (h : Nd w (.node l k v r) p) (hs : l.cnt + r.cnt ≤ 1000000) :
    Calls Try.prog 54 #[p] w fun e w' => Same' w w' e (.node l k v r) := by
  have HN := keeps h
  obtain ⟨g, pl, pr, rfl, hg, hl, hr⟩ := nd_node h
  have HG := keep1 hg; have HL := keeps hl; have HR := keeps hr
  obtain ⟨pl, rfl⟩ := hl.shape
  obtain ⟨pr, rfl⟩ := hr.shape
  obtain ⟨-, -, c2, c3, -⟩ := hg.cells
  have HCL : Hid (∀ W, Turn (fun _ => False) w W → Calls Try.prog 41 #[.pointer pl] W fun e w' => e = .returned (.int .i64 (l.cnt : Int)) ∧ W = w') := fun W ht => count_any (HL.out W ht)
  have HCR : Hid (∀ W, Turn (fun _ => False) w W → Calls Try.prog 41 #[.pointer pr] W fun e w' => e = .returned (.int .i64 (r.cnt : Int)) ∧ W = w') := fun W ht => count_any (HR.out W ht)
  clear h hg hl hr
  by_cases h1 : 3 * (l.cnt + 1) < r.cnt + 1
  · cases r with
    | nil => exact absurd h1 (by show ¬ 3 * (l.cnt + 1) < 0 + 1; omega)
    | node a k2 v2 b =>
      have HT : Hid (∀ W, Turn (fun _ => False) w W → Calls Try.prog 67 #[.pointer (some ⟨g, 0, none⟩)] W fun e w' => Same' W w' e (.node l k v (.node a k2 v2 b))) := fun W ht => turnLeft_any (HN.out W ht) (by rw [cnt_node] at hs; omega)
      generalize (Tr.node a k2 v2 b) = r at *
      have h1' : 3 * ((l.cnt : Int) + 1) < (r.cnt : Int) + 1 := by omega
      go_enter Try.func54, Try.ntmps54
      go_wp2_with fail
      go_quiet (first
        | (go_at_call 41; with_reducible exact quiet_left (HCL.out _ ((Turn.refl _ w).drewN _)))
        | (go_at_call 41; with_reducible exact quiet_left (HCR.out _ ((Turn.refl _ w).drewN _))))
      go_wp2_with (go_at_call 67; refine (HT.out _ ((Turn.refl _ w).drewN _)).mono ?_; rintro e w' ⟨y, hf, q, rfl, hn, ht⟩; have HF := Lib.hid hf; have HQ := Lib.hid hn; have HTT := Lib.hid ht; clear hf hn ht)
      go_ret
      exact ⟨y, HF.out, q, rfl, HQ.out, ((Turn.refl _ w).drewN _).trans HTT.out (fun _ _ f => f)⟩
  · by_cases h2 : 3 * (r.cnt + 1) < l.cnt + 1
    · cases l with
      | nil => exact absurd h2 (by show ¬ 3 * (r.cnt + 1) < 0 + 1; omega)
      | node a k2 v2 b =>
        have HT : Hid (∀ W, Turn (fun _ => False) w W → Calls Try.prog 68 #[.pointer (some ⟨g, 0, none⟩)] W fun e w' => Same' W w' e (.node (.node a k2 v2 b) k v r)) := fun W ht => turnRight_any (HN.out W ht) (by rw [cnt_node] at hs; omega)
        generalize (Tr.node a k2 v2 b) = l at *
        have h1' : ¬ 3 * ((l.cnt : Int) + 1) < (r.cnt : Int) + 1 := by omega
        have h2' : 3 * ((r.cnt : Int) + 1) < (l.cnt : Int) + 1 := by omega
        go_enter Try.func54, Try.ntmps54
        go_wp2_with fail
        go_quiet (first
          | (go_at_call 41; with_reducible exact quiet_left (HCL.out _ ((Turn.refl _ w).drewN _)))
          | (go_at_call 41; with_reducible exact quiet_left (HCR.out _ ((Turn.refl _ w).drewN _))))
        go_wp2_with (go_at_call 68; refine (HT.out _ ((Turn.refl _ w).drewN _)).mono ?_; rintro e w' ⟨y, hf, q, rfl, hn, ht⟩; have HF := Lib.hid hf; have HQ := Lib.hid hn; have HTT := Lib.hid ht; clear hf hn ht)
        go_ret
        exact ⟨y, HF.out, q, rfl, HQ.out, ((Turn.refl _ w).drewN _).trans HTT.out (fun _ _ f => f)⟩
    · have h1' : ¬ 3 * ((l.cnt : Int) + 1) < (r.cnt : Int) + 1 := by omega
      have h2' : ¬ 3 * ((r.cnt : Int) + 1) < (l.cnt : Int) + 1 := by omega
      go_enter Try.func54, Try.ntmps54
      go_wp2_with fail
      go_quiet (first
        | (go_at_call 41; with_reducible exact quiet_left (HCL.out _ ((Turn.refl _ w).drewN _)))
        | (go_at_call 41; with_reducible exact quiet_left (HCR.out _ ((Turn.refl _ w).drewN _))))
      go_wp2_with fail
      go_ret
      exact ⟨_, rfl, g, rfl, HN.out _ ((Turn.refl _ w).drewN _), (Turn.refl _ w).drewN _⟩

end Go.Proofs.Ytnapeckpjnbcgaa.oms
