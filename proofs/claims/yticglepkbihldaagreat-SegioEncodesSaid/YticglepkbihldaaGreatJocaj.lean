/-
  Texts laid one behind the other: Hcs Hds Hes Hfs Ic Iq Id Hjs.
-/
import Derived.Test.YticglepkbihldaaGreatJocai
import Derived.Laws.ResultCell
import Derived.Test.YticglepkbihldaaGreatJocac
import Derived.Sort.BigQuietIn
import Derived.Stop.RegionWithIn

/-
  A tree that is turned where one side is too heavy (keys string, values int).
-/
namespace Go.Proofs.YticglepkbihldaaGreat.oms
open Go.RowKit

/-- A tree with the same list. -/
def Same' (w w' : World) (e : Ending) (x : Tr (List UInt8) Int) : Prop := ∃ y : Tr (List UInt8) Int, y.flat = x.flat ∧ Tree w w' e y
theorem same_of {w w0 w' : World} {e : Ending} {x y : Tr (List UInt8) Int} (h : Tree w0 w' e y) (ht : Turn (fun _ => False) w w0) (hf : y.flat = x.flat) : Same' w w' e x := by
  obtain ⟨g, h1, h2, h3⟩ := h
  exact ⟨y, hf, g, h1, h2, ht.trans h3 (fun _ _ f => f)⟩
theorem keeps {w : World} {x : Tr (List UInt8) Int} {p : Value} (h : Nd w x p) : Hid (∀ W, Turn (fun _ => False) w W → Nd W x p) := fun _ ht => h.later ht
theorem keep1 {w : World} {g : Nat} {k : (List UInt8)} {v : Int} {pl pr : Value} {n : Nat} (h : One w g k v pl pr n) : Hid (∀ W, Turn (fun _ => False) w W → One W g k v pl pr n) := fun _ ht => h.later ht
theorem flat_node (l : Tr (List UInt8) Int) (k : (List UInt8)) (v : Int) (r : Tr (List UInt8) Int) : (Tr.node l k v r).flat = l.flat ++ (k, v) :: r.flat := rfl
theorem cnt_node (l : Tr (List UInt8) Int) (k : (List UInt8)) (v : Int) (r : Tr (List UInt8) Int) : (Tr.node l k v r).cnt = l.cnt + r.cnt + 1 := rfl

set_option maxRecDepth 100000 in
set_option maxHeartbeats 2000000 in
theorem turnLeft_any {l a b : Tr (List UInt8) Int} {k k2 : (List UInt8)} {v v2 : Int} {w : World} {p : Value} (h : Nd w (.node l k v (.node a k2 v2 b)) p) (hs : l.cnt + (a.cnt + b.cnt) ≤ 1000000) :
    Calls Tryz.prog 141 #[p] w fun e w' => Same' w w' e (.node l k v (.node a k2 v2 b)) := by
  obtain ⟨g, pl, pr, rfl, hg, hl, hr⟩ := nd_node h
  obtain ⟨u, pa, pb, rfl, hu, ha, hb⟩ := nd_node hr
  have HG := keep1 hg; have HU := keep1 hu; have HL := keeps hl; have HA := keeps ha; have HB := keeps hb
  obtain ⟨pl, rfl⟩ := hl.shape
  obtain ⟨pa, rfl⟩ := ha.shape
  obtain ⟨pb, rfl⟩ := hb.shape
  obtain ⟨-, -, c2, c3, -⟩ := hg.cells
  obtain ⟨-, -, d2, d3, -⟩ := hu.cells
  have HCA : Hid (∀ W, Turn (fun _ => False) w W → Calls Tryz.prog 117 #[.pointer pa] W fun e w' => e = .returned (.int .i64 (a.cnt : Int)) ∧ W = w') := fun W ht => count_any (HA.out W ht)
  have HCB : Hid (∀ W, Turn (fun _ => False) w W → Calls Tryz.prog 117 #[.pointer pb] W fun e w' => e = .returned (.int .i64 (b.cnt : Int)) ∧ W = w') := fun W ht => count_any (HB.out W ht)
  clear h hg hl hr hu ha hb
  by_cases hc : a.cnt + 1 < 2 * (b.cnt + 1)
  · have hc' : (a.cnt : Int) + 1 < 2 * ((b.cnt : Int) + 1) := by omega
    go_enter Tryz.func141, Tryz.ntmps141
    go_wp2_with fail
    go_quiet (first
      | (go_at_call 117; with_reducible exact quiet_left (HCA.out _ ((Turn.refl _ w).drewN _)))
      | (go_at_call 117; with_reducible exact quiet_left (HCB.out _ ((Turn.refl _ w).drewN _))))
    go_wp2_with fail
    have HK : Hid (∀ W, Turn (fun _ => False) w W → (W.cell? ⟨g, 2, none⟩ = some (.pointer pl) ∧ W.cell? ⟨u, 2, none⟩ = some (.pointer pa) ∧ W.cell? ⟨u, 3, none⟩ = some (.pointer pb)) ∧ Turn (fun _ => False) w W) :=
      fun W ht => ⟨⟨(HG.out W ht).cells.2.2.1, (HU.out W ht).cells.2.2.1, (HU.out W ht).cells.2.2.2.1⟩, ht⟩
    go_region_held3 (fun W => (W.cell? ⟨g, 2, none⟩ = some (.pointer pl) ∧ W.cell? ⟨u, 2, none⟩ = some (.pointer pa) ∧ W.cell? ⟨u, 3, none⟩ = some (.pointer pb)) ∧ Turn (fun _ => False) w W)
      ((refine HK.out _ ?_; repeat (first | with_reducible exact Turn.refl _ w | with_reducible exact HT2.out | with_reducible exact HT.out | with_reducible refine Turn.drew ?_ | with_reducible refine Turn.drewN ?_ _)))
      (first
        | (go_at_call 132; (with_reducible refine (over_any (g := g) (pl := .pointer pl) (pr := .pointer pa) (HG.out _ ?_) (HL.out _ ?_) (HA.out _ ?_) ?_).mono ?_); exact (Turn.refl _ w).drewN _; exact (Turn.refl _ w).drewN _; exact (Turn.refl _ w).drewN _; (focus (omega)); rintro e w2 ⟨q, rfl, hn, ht⟩; have HT := Lib.hid (((Turn.refl _ w).drewN _).trans ht (fun _ _ f => f)); have HN := Lib.hid hn; clear hn ht)
        | (go_at_call 132; (with_reducible refine (over_any (g := u) (pr := .pointer pb) (HU.out _ ?_) HN.out (HB.out _ ?_) ?_).mono ?_); exact HT.out; exact HT.out; (focus (rw [cnt_node]; omega)); rintro e w3 ⟨q2, rfl, hn2, ht2⟩; have HT2 := Lib.hid (HT.out.trans ht2 (fun _ _ f => f)); have HN2 := Lib.hid hn2; clear hn2 ht2)
        | fail)
    all_goals go_wp2
    all_goals go_ret
    all_goals exact ⟨_, by simp [flat_node], q2, rfl, HN2.out, HT2.out⟩
  · have hc' : ¬ (a.cnt : Int) + 1 < 2 * ((b.cnt : Int) + 1) := by omega
    cases a with
    | nil => exact absurd (show (0 : Nat) + 1 < 2 * (b.cnt + 1) by omega) hc
    | node c k3 v3 d =>
      obtain ⟨t, pc, pd, hpa, ht, hc2, hd2⟩ := nd_node (HA.out w (Turn.refl _ w))
      cases hpa
      have HT3 := keep1 ht; have HC := keeps hc2; have HD := keeps hd2
      obtain ⟨pc, rfl⟩ := hc2.shape
      obtain ⟨pd, rfl⟩ := hd2.shape
      obtain ⟨m, hm⟩ : ∃ m, m = (Tr.node c k3 v3 d).cnt := ⟨_, rfl⟩
      rw [← hm] at hs HCA hc'
      have HM := Lib.hid (hm.trans (cnt_node c k3 v3 d))
      clear ht hc2 hd2 hc hm
      go_enter Tryz.func141, Tryz.ntmps141
      go_wp2_with fail
      go_quiet (first
        | (go_at_call 117; with_reducible exact quiet_left (HCA.out _ ((Turn.refl _ w).drewN _)))
        | (go_at_call 117; with_reducible exact quiet_left (HCB.out _ ((Turn.refl _ w).drewN _))))
      have e2 := (HU.out _ ((Turn.refl _ w).drewN nq)).cells.2.2.1
      go_wp2_with fail
      have HK : Hid (∀ W, Turn (fun _ => False) w W → (W.cell? ⟨g, 2, none⟩ = some (.pointer pl) ∧ W.cell? ⟨t, 2, none⟩ = some (.pointer pc) ∧ W.cell? ⟨t, 3, none⟩ = some (.pointer pd) ∧ W.cell? ⟨u, 3, none⟩ = some (.pointer pb)) ∧ Turn (fun _ => False) w W) :=
        fun W ht => ⟨⟨(HG.out W ht).cells.2.2.1, (HT3.out W ht).cells.2.2.1, (HT3.out W ht).cells.2.2.2.1, (HU.out W ht).cells.2.2.2.1⟩, ht⟩
      go_region_held3 (fun W => (W.cell? ⟨g, 2, none⟩ = some (.pointer pl) ∧ W.cell? ⟨t, 2, none⟩ = some (.pointer pc) ∧ W.cell? ⟨t, 3, none⟩ = some (.pointer pd) ∧ W.cell? ⟨u, 3, none⟩ = some (.pointer pb)) ∧ Turn (fun _ => False) w W)
        ((refine HK.out _ ?_; repeat (first | with_reducible exact Turn.refl _ w | with_reducible exact HTC.out | with_reducible exact HTB.out | with_reducible exact HTA.out | with_reducible refine Turn.drew ?_ | with_reducible refine Turn.drewN ?_ _)))
        (first
          | (go_at_call 132; (with_reducible refine (over_any (g := g) (pl := .pointer pl) (pr := .pointer pc) (HG.out _ ?_) (HL.out _ ?_) (HC.out _ ?_) ?_).mono ?_); exact (Turn.refl _ w).drewN _; exact (Turn.refl _ w).drewN _; exact (Turn.refl _ w).drewN _; (focus (have := HM.out; omega)); rintro e w2 ⟨q, rfl, hn, ht⟩; have HTA := Lib.hid (((Turn.refl _ w).drewN _).trans ht (fun _ _ f => f)); have HNA := Lib.hid hn; clear hn ht)
          | (go_at_call 132; (with_reducible refine (over_any (g := u) (pl := .pointer pd) (pr := .pointer pb) (HU.out _ ?_) (HD.out _ ?_) (HB.out _ ?_) ?_).mono ?_); exact HTA.out; exact HTA.out; exact HTA.out; (focus (have := HM.out; omega)); rintro e w3 ⟨q2, rfl, hn2, ht2⟩; have HTB := Lib.hid (HTA.out.trans ht2 (fun _ _ f => f)); have HNB := Lib.hid hn2; have HNA2 := Lib.hid (HNA.out.later ht2); clear hn2 ht2)
          | (go_at_call 132; (with_reducible refine (over_any (g := t) (HT3.out _ ?_) HNA2.out HNB.out ?_).mono ?_); exact HTB.out; (focus (rw [cnt_node, cnt_node]; have := HM.out; omega)); rintro e w4 ⟨q3, rfl, hn3, ht3⟩; have HTC := Lib.hid (HTB.out.trans ht3 (fun _ _ f => f)); have HNC := Lib.hid hn3; clear hn3 ht3)
          | fail)
      all_goals go_wp2
      all_goals go_ret
      all_goals exact ⟨_, by simp [flat_node], q3, rfl, HNC.out, HTC.out⟩

set_option maxRecDepth 100000 in
set_option maxHeartbeats 2000000 in
theorem turnRight_any {a b r : Tr (List UInt8) Int} {k k2 : (List UInt8)} {v v2 : Int} {w : World} {p : Value} (h : Nd w (.node (.node a k2 v2 b) k v r) p) (hs : (a.cnt + b.cnt) + r.cnt ≤ 1000000) :
    Calls Tryz.prog 142 #[p] w fun e w' => Same' w w' e (.node (.node a k2 v2 b) k v r) := by
  obtain ⟨g, pl, pr, rfl, hg, hl, hr⟩ := nd_node h
  obtain ⟨u, pa, pb, rfl, hu, ha, hb⟩ := nd_node hl
  have HG := keep1 hg; have HU := keep1 hu; have HR := keeps hr; have HA := keeps ha; have HB := keeps hb
  obtain ⟨pr, rfl⟩ := hr.shape
  obtain ⟨pa, rfl⟩ := ha.shape
  obtain ⟨pb, rfl⟩ := hb.shape
  obtain ⟨-, -, c2, c3, -⟩ := hg.cells
  obtain ⟨-, -, d2, d3, -⟩ := hu.cells
  have HCA : Hid (∀ W, Turn (fun _ => False) w W → Calls Tryz.prog 117 #[.pointer pa] W fun e w' => e = .returned (.int .i64 (a.cnt : Int)) ∧ W = w') := fun W ht => count_any (HA.out W ht)
  have HCB : Hid (∀ W, Turn (fun _ => False) w W → Calls Tryz.prog 117 #[.pointer pb] W fun e w' => e = .returned (.int .i64 (b.cnt : Int)) ∧ W = w') := fun W ht => count_any (HB.out W ht)
  clear h hg hl hr hu ha hb
  by_cases hc : b.cnt + 1 < 2 * (a.cnt + 1)
  · have hc' : (b.cnt : Int) + 1 < 2 * ((a.cnt : Int) + 1) := by omega
    go_enter Tryz.func142, Tryz.ntmps142
    go_wp2_with fail
    go_quiet (first
      | (go_at_call 117; with_reducible exact quiet_left (HCA.out _ ((Turn.refl _ w).drewN _)))
      | (go_at_call 117; with_reducible exact quiet_left (HCB.out _ ((Turn.refl _ w).drewN _))))
    go_wp2_with fail
    have HK : Hid (∀ W, Turn (fun _ => False) w W → (W.cell? ⟨u, 2, none⟩ = some (.pointer pa) ∧ W.cell? ⟨u, 3, none⟩ = some (.pointer pb) ∧ W.cell? ⟨g, 3, none⟩ = some (.pointer pr)) ∧ Turn (fun _ => False) w W) :=
      fun W ht => ⟨⟨(HU.out W ht).cells.2.2.1, (HU.out W ht).cells.2.2.2.1, (HG.out W ht).cells.2.2.2.1⟩, ht⟩
    go_region_held3 (fun W => (W.cell? ⟨u, 2, none⟩ = some (.pointer pa) ∧ W.cell? ⟨u, 3, none⟩ = some (.pointer pb) ∧ W.cell? ⟨g, 3, none⟩ = some (.pointer pr)) ∧ Turn (fun _ => False) w W)
      ((refine HK.out _ ?_; repeat (first | with_reducible exact Turn.refl _ w | with_reducible exact HT2.out | with_reducible exact HT.out | with_reducible refine Turn.drew ?_ | with_reducible refine Turn.drewN ?_ _)))
      (first
        | (go_at_call 132; (with_reducible refine (over_any (g := g) (pl := .pointer pb) (pr := .pointer pr) (HG.out _ ?_) (HB.out _ ?_) (HR.out _ ?_) ?_).mono ?_); exact (Turn.refl _ w).drewN _; exact (Turn.refl _ w).drewN _; exact (Turn.refl _ w).drewN _; (focus (omega)); rintro e w2 ⟨q, rfl, hn, ht⟩; have HT := Lib.hid (((Turn.refl _ w).drewN _).trans ht (fun _ _ f => f)); have HN := Lib.hid hn; clear hn ht)
        | (go_at_call 132; (with_reducible refine (over_any (g := u) (pl := .pointer pa) (HU.out _ ?_) (HA.out _ ?_) HN.out ?_).mono ?_); exact HT.out; exact HT.out; (focus (rw [cnt_node]; omega)); rintro e w3 ⟨q2, rfl, hn2, ht2⟩; have HT2 := Lib.hid (HT.out.trans ht2 (fun _ _ f => f)); have HN2 := Lib.hid hn2; clear hn2 ht2)
        | fail)
    all_goals go_wp2
    all_goals go_ret
    all_goals exact ⟨_, by simp [flat_node], q2, rfl, HN2.out, HT2.out⟩
  · have hc' : ¬ (b.cnt : Int) + 1 < 2 * ((a.cnt : Int) + 1) := by omega
    cases b with
    | nil => exact absurd (show (0 : Nat) + 1 < 2 * (a.cnt + 1) by omega) hc
    | node c k3 v3 d =>
      obtain ⟨t, pc, pd, hpa, ht, hc2, hd2⟩ := nd_node (HB.out w (Turn.refl _ w))
      cases hpa
      have HT3 := keep1 ht; have HC := keeps hc2; have HD := keeps hd2
      obtain ⟨pc, rfl⟩ := hc2.shape
      obtain ⟨pd, rfl⟩ := hd2.shape
      obtain ⟨m, hm⟩ : ∃ m, m = (Tr.node c k3 v3 d).cnt := ⟨_, rfl⟩
      rw [← hm] at hs HCB hc'
      have HM := Lib.hid (hm.trans (cnt_node c k3 v3 d))
      clear ht hc2 hd2 hc hm
      go_enter Tryz.func142, Tryz.ntmps142
      go_wp2_with fail
      go_quiet (first
        | (go_at_call 117; with_reducible exact quiet_left (HCA.out _ ((Turn.refl _ w).drewN _)))
        | (go_at_call 117; with_reducible exact quiet_left (HCB.out _ ((Turn.refl _ w).drewN _))))
      have e2 := (HU.out _ ((Turn.refl _ w).drewN nq)).cells.2.2.2.1
      go_wp2_with fail
      have HK : Hid (∀ W, Turn (fun _ => False) w W → (W.cell? ⟨u, 2, none⟩ = some (.pointer pa) ∧ W.cell? ⟨t, 2, none⟩ = some (.pointer pc) ∧ W.cell? ⟨t, 3, none⟩ = some (.pointer pd) ∧ W.cell? ⟨g, 3, none⟩ = some (.pointer pr)) ∧ Turn (fun _ => False) w W) :=
        fun W ht => ⟨⟨(HU.out W ht).cells.2.2.1, (HT3.out W ht).cells.2.2.1, (HT3.out W ht).cells.2.2.2.1, (HG.out W ht).cells.2.2.2.1⟩, ht⟩
      go_region_held3 (fun W => (W.cell? ⟨u, 2, none⟩ = some (.pointer pa) ∧ W.cell? ⟨t, 2, none⟩ = some (.pointer pc) ∧ W.cell? ⟨t, 3, none⟩ = some (.pointer pd) ∧ W.cell? ⟨g, 3, none⟩ = some (.pointer pr)) ∧ Turn (fun _ => False) w W)
        ((refine HK.out _ ?_; repeat (first | with_reducible exact Turn.refl _ w | with_reducible exact HTC.out | with_reducible exact HTB.out | with_reducible exact HTA.out | with_reducible refine Turn.drew ?_ | with_reducible refine Turn.drewN ?_ _)))
        (first
          | (go_at_call 132; (with_reducible refine (over_any (g := u) (pl := .pointer pa) (pr := .pointer pc) (HU.out _ ?_) (HA.out _ ?_) (HC.out _ ?_) ?_).mono ?_); exact (Turn.refl _ w).drewN _; exact (Turn.refl _ w).drewN _; exact (Turn.refl _ w).drewN _; (focus (have := HM.out; omega)); rintro e w2 ⟨q, rfl, hn, ht⟩; have HTA := Lib.hid (((Turn.refl _ w).drewN _).trans ht (fun _ _ f => f)); have HNA := Lib.hid hn; clear hn ht)
          | (go_at_call 132; (with_reducible refine (over_any (g := g) (pl := .pointer pd) (pr := .pointer pr) (HG.out _ ?_) (HD.out _ ?_) (HR.out _ ?_) ?_).mono ?_); exact HTA.out; exact HTA.out; exact HTA.out; (focus (have := HM.out; omega)); rintro e w3 ⟨q2, rfl, hn2, ht2⟩; have HTB := Lib.hid (HTA.out.trans ht2 (fun _ _ f => f)); have HNB := Lib.hid hn2; have HNA2 := Lib.hid (HNA.out.later ht2); clear hn2 ht2)
          | (go_at_call 132; (with_reducible refine (over_any (g := t) (HT3.out _ ?_) HNA2.out HNB.out ?_).mono ?_); exact HTB.out; (focus (rw [cnt_node, cnt_node]; have := HM.out; omega)); rintro e w4 ⟨q3, rfl, hn3, ht3⟩; have HTC := Lib.hid (HTB.out.trans ht3 (fun _ _ f => f)); have HNC := Lib.hid hn3; clear hn3 ht3)
          | fail)
      all_goals go_wp2
      all_goals go_ret
      all_goals exact ⟨_, by simp [flat_node], q3, rfl, HNC.out, HTC.out⟩

set_option maxRecDepth 100000 in
set_option maxHeartbeats 2000000 in
theorem even_any {l r : Tr (List UInt8) Int} {k : (List UInt8)} {v : Int} {w : World} {p : Value} (h : Nd w (.node l k v r) p) (hs : l.cnt + r.cnt ≤ 1000000) :
    Calls Tryz.prog 133 #[p] w fun e w' => Same' w w' e (.node l k v r) := by
  have HN := keeps h
  obtain ⟨g, pl, pr, rfl, hg, hl, hr⟩ := nd_node h
  have HG := keep1 hg; have HL := keeps hl; have HR := keeps hr
  obtain ⟨pl, rfl⟩ := hl.shape
  obtain ⟨pr, rfl⟩ := hr.shape
  obtain ⟨-, -, c2, c3, -⟩ := hg.cells
  have HCL : Hid (∀ W, Turn (fun _ => False) w W → Calls Tryz.prog 117 #[.pointer pl] W fun e w' => e = .returned (.int .i64 (l.cnt : Int)) ∧ W = w') := fun W ht => count_any (HL.out W ht)
  have HCR : Hid (∀ W, Turn (fun _ => False) w W → Calls Tryz.prog 117 #[.pointer pr] W fun e w' => e = .returned (.int .i64 (r.cnt : Int)) ∧ W = w') := fun W ht => count_any (HR.out W ht)
  clear h hg hl hr
  by_cases h1 : 3 * (l.cnt + 1) < r.cnt + 1
  · cases r with
    | nil => exact absurd h1 (by show ¬ 3 * (l.cnt + 1) < 0 + 1; omega)
    | node a k2 v2 b =>
      have HT : Hid (∀ W, Turn (fun _ => False) w W → Calls Tryz.prog 141 #[.pointer (some ⟨g, 0, none⟩)] W fun e w' => Same' W w' e (.node l k v (.node a k2 v2 b))) := fun W ht => turnLeft_any (HN.out W ht) (by rw [cnt_node] at hs; omega)
      generalize (Tr.node a k2 v2 b) = r at *
      have h1' : 3 * ((l.cnt : Int) + 1) < (r.cnt : Int) + 1 := by omega
      go_enter Tryz.func133, Tryz.ntmps133
      go_wp2_with fail
      go_quiet (first
        | (go_at_call 117; with_reducible exact quiet_left (HCL.out _ ((Turn.refl _ w).drewN _)))
        | (go_at_call 117; with_reducible exact quiet_left (HCR.out _ ((Turn.refl _ w).drewN _))))
      go_wp2_with (go_at_call 141; refine (HT.out _ ((Turn.refl _ w).drewN _)).mono ?_; rintro e w' ⟨y, hf, q, rfl, hn, ht⟩; have HF := Lib.hid hf; have HQ := Lib.hid hn; have HTT := Lib.hid ht; clear hf hn ht)
      go_ret
      exact ⟨y, HF.out, q, rfl, HQ.out, ((Turn.refl _ w).drewN _).trans HTT.out (fun _ _ f => f)⟩
  · by_cases h2 : 3 * (r.cnt + 1) < l.cnt + 1
    · cases l with
      | nil => exact absurd h2 (by show ¬ 3 * (r.cnt + 1) < 0 + 1; omega)
      | node a k2 v2 b =>
        have HT : Hid (∀ W, Turn (fun _ => False) w W → Calls Tryz.prog 142 #[.pointer (some ⟨g, 0, none⟩)] W fun e w' => Same' W w' e (.node (.node a k2 v2 b) k v r)) := fun W ht => turnRight_any (HN.out W ht) (by rw [cnt_node] at hs; omega)
        generalize (Tr.node a k2 v2 b) = l at *
        have h1' : ¬ 3 * ((l.cnt : Int) + 1) < (r.cnt : Int) + 1 := by omega
        have h2' : 3 * ((r.cnt : Int) + 1) < (l.cnt : Int) + 1 := by omega
        go_enter Tryz.func133, Tryz.ntmps133
        go_wp2_with fail
        go_quiet (first
          | (go_at_call 117; with_reducible exact quiet_left (HCL.out _ ((Turn.refl _ w).drewN _)))
          | (go_at_call 117; with_reducible exact quiet_left (HCR.out _ ((Turn.refl _ w).drewN _))))
        go_wp2_with (go_at_call 142; refine (HT.out _ ((Turn.refl _ w).drewN _)).mono ?_; rintro e w' ⟨y, hf, q, rfl, hn, ht⟩; have HF := Lib.hid hf; have HQ := Lib.hid hn; have HTT := Lib.hid ht; clear hf hn ht)
        go_ret
        exact ⟨y, HF.out, q, rfl, HQ.out, ((Turn.refl _ w).drewN _).trans HTT.out (fun _ _ f => f)⟩
    · have h1' : ¬ 3 * ((l.cnt : Int) + 1) < (r.cnt : Int) + 1 := by omega
      have h2' : ¬ 3 * ((r.cnt : Int) + 1) < (l.cnt : Int) + 1 := by omega
      go_enter Tryz.func133, Tryz.ntmps133
      go_wp2_with fail
      go_quiet (first
        | (go_at_call 117; with_reducible exact quiet_left (HCL.out _ ((Turn.refl _ w).drewN _)))
        | (go_at_call 117; with_reducible exact quiet_left (HCR.out _ ((Turn.refl _ w).drewN _))))
      go_wp2_with fail
      go_ret
      exact ⟨_, rfl, g, rfl, HN.out _ ((Turn.refl _ w).drewN _), (Turn.refl _ w).drewN _⟩

end Go.Proofs.YticglepkbihldaaGreat.oms

/-
  A tree in which a key has a value (keys string, values int).
-/
namespace Go.Proofs.YticglepkbihldaaGreat.oms
open Go.RowKit

/-- A tree whose list is L. -/
def Has (w w' : World) (e : Ending) (L : List ((List UInt8) × Int)) : Prop := ∃ y : Tr (List UInt8) Int, y.flat = L ∧ Tree w w' e y
theorem same_has {w w' : World} {e : Ending} {x : Tr (List UInt8) Int} (h : Same' w w' e x) : Has w w' e x.flat := h
theorem cnt_of {y : Tr (List UInt8) Int} {L : List ((List UInt8) × Int)} (h : y.flat = L) : y.cnt = L.length := by rw [← h, Tr.cnt_flat]
theorem cnt_put {x y : Tr (List UInt8) Int} {k : (List UInt8)} {v : Int} (h : y.flat = putK Op.bytesLess x.flat k v) : y.cnt ≤ x.cnt + 1 := by
  rw [cnt_of h, put_size, Tr.cnt_flat]
  split <;> omega
theorem cnt_drop {x y : Tr (List UInt8) Int} {k : (List UInt8)} (h : y.flat = dropK Op.bytesLess x.flat k) : y.cnt ≤ x.cnt := by
  have := drop_size (lt := Op.bytesLess) x.flat k
  rw [cnt_of h, ← Tr.cnt_flat x]
  omega
theorem keep_call {w : World} {x : Tr (List UInt8) Int} {p : Value} (h : Nd w x p) : ∃ A, p = .pointer A := h.shape

set_option maxRecDepth 100000 in
set_option maxHeartbeats 4000000 in
theorem with_any (k : (List UInt8)) (v : Int) (x : Tr (List UInt8) Int) : ∀ (w : World) (p : Value), Nd w x p → x.cnt ≤ 999999 → Up Op.bytesLess x.flat →
    Calls Tryz.prog 116 #[p, (.string ⟨k.toArray⟩), (.int .i64 v)] w fun e w' => Has w w' e (putK Op.bytesLess x.flat k v) := by
  induction x with
  | nil =>
    intro w p h _ _
    obtain rfl : p = .pointer none := h
    go_enter Tryz.func116, Tryz.ntmps116
    go_wp2
    go_ret
    exact ⟨.node .nil k v .nil, rfl, w.heap.size, rfl, ⟨w.heap.size, .pointer none, .pointer none, rfl, Box.new w 189 #[(.string ⟨k.toArray⟩), (.int .i64 v), .pointer none, .pointer none, .int .i64 1], rfl, rfl⟩, (Turn.refl _ w).alloc _⟩
  | node l k0 v0 r ihl ihr =>
    intro w p h hs hu
    obtain ⟨g, pl, pr, rfl, hg, hl, hr⟩ := nd_node h
    have HG := keep1 hg; have HL := keeps hl; have HR := keeps hr
    obtain ⟨pl, rfl⟩ := hl.shape
    obtain ⟨pr, rfl⟩ := hr.shape
    obtain ⟨c0, -, -, -, -⟩ := hg.cells
    obtain ⟨hu1, hu2, hu3⟩ := up_parts hu
    rw [cnt_node] at hs
    clear h hg hl hr hu
    have HK : Hid (∀ W, Turn (fun _ => False) w W → (W.cell? ⟨g, 2, none⟩ = some (.pointer pl) ∧ W.cell? ⟨g, 3, none⟩ = some (.pointer pr)) ∧ Turn (fun _ => False) w W) :=
      fun W ht => ⟨⟨(HG.out W ht).cells.2.2.1, (HG.out W ht).cells.2.2.2.1⟩, ht⟩
    by_cases h1 : Op.bytesLess k k0 = true
    · have hp : putK Op.bytesLess (Tr.node l k0 v0 r).flat k v = putK Op.bytesLess l.flat k v ++ (k0, v0) :: r.flat := put_left rises_bytes (p := (k0, v0)) h1 v r.flat l.flat
      rw [hp]
      have HC : Hid (∀ W, Calls Tryz.prog 109 #[(.string ⟨k.toArray⟩), (.string ⟨k0.toArray⟩)] W fun e w' => e = .returned (.int .i64 (-1)) ∧ W = w') := fun W => by have := compare_any k k0 W; rw [ord_lt h1] at this; exact this
      have HI : Hid (∀ W, Turn (fun _ => False) w W → Calls Tryz.prog 116 #[.pointer pl, (.string ⟨k.toArray⟩), (.int .i64 v)] W fun e w' => Has W w' e (putK Op.bytesLess l.flat k v)) := fun W ht => ihl W _ (HL.out W ht) (by omega) hu1
      clear ihl ihr hu1 hu2 hu3 hp h1
      go_enter Tryz.func116, Tryz.ntmps116
      go_wp2_with (go_at_call 109; refine (HC.out _).mono ?_; rintro e w' ⟨rfl, rfl⟩)
      go_region_held3 (fun W => (W.cell? ⟨g, 2, none⟩ = some (.pointer pl) ∧ W.cell? ⟨g, 3, none⟩ = some (.pointer pr)) ∧ Turn (fun _ => False) w W)
        ((refine HK.out _ ?_; repeat (first | with_reducible exact Turn.refl _ w | with_reducible exact HTC.out | with_reducible exact HTB.out | with_reducible exact HTA.out | with_reducible refine Turn.drew ?_ | with_reducible refine Turn.drewN ?_ _)))
        (first
          | (go_at_call 116; (with_reducible refine (HI.out _ ?_).mono ?_); exact (Turn.refl _ w).drew; rintro e w2 ⟨y, hy, q, rfl, hn, ht⟩; have HTA := Lib.hid ((Turn.refl _ w).drew.trans ht (fun _ _ f => f)); have HNA := Lib.hid hn; have HY := Lib.hid hy; clear hn ht hy)
          | (go_at_call 132; (with_reducible refine (over_any (g := g) (pr := .pointer pr) (HG.out _ ?_) HNA.out (HR.out _ ?_) ?_).mono ?_); exact HTA.out; exact HTA.out; (focus (have := cnt_put HY.out; omega)); rintro e w3 ⟨q2, rfl, hn2, ht2⟩; have HTB := Lib.hid (HTA.out.trans ht2 (fun _ _ f => f)); have HNB := Lib.hid hn2; clear hn2 ht2)
          | (go_at_call 133; (with_reducible refine (even_any HNB.out ?_).mono ?_); (focus (have := cnt_put HY.out; omega)); rintro e w4 ⟨z, hz, q3, rfl, hn3, ht3⟩; have HTC := Lib.hid (HTB.out.trans ht3 (fun _ _ f => f)); have HNC := Lib.hid hn3; have HZ := Lib.hid hz; clear hn3 ht3 hz)
          | fail)
      all_goals go_wp2
      all_goals go_ret
      all_goals exact ⟨z, by rw [HZ.out, flat_node, HY.out], q3, rfl, HNC.out, HTC.out⟩
    · by_cases h2 : Op.bytesLess k0 k = true
      · have hp : putK Op.bytesLess (Tr.node l k0 v0 r).flat k v = l.flat ++ (k0, v0) :: putK Op.bytesLess r.flat k v := put_right (p := (k0, v0)) h2 v r.flat l.flat (hu3.tr rises_bytes h2)
        rw [hp]
        have HC : Hid (∀ W, Calls Tryz.prog 109 #[(.string ⟨k.toArray⟩), (.string ⟨k0.toArray⟩)] W fun e w' => e = .returned (.int .i64 1) ∧ W = w') := fun W => by have := compare_any k k0 W; rw [ord_gt h2] at this; exact this
        have HI : Hid (∀ W, Turn (fun _ => False) w W → Calls Tryz.prog 116 #[.pointer pr, (.string ⟨k.toArray⟩), (.int .i64 v)] W fun e w' => Has W w' e (putK Op.bytesLess r.flat k v)) := fun W ht => ihr W _ (HR.out W ht) (by omega) hu2
        clear ihl ihr hu1 hu2 hu3 hp h1 h2
        go_enter Tryz.func116, Tryz.ntmps116
        go_wp2_with (go_at_call 109; refine (HC.out _).mono ?_; rintro e w' ⟨rfl, rfl⟩)
        go_region_held3 (fun W => (W.cell? ⟨g, 2, none⟩ = some (.pointer pl) ∧ W.cell? ⟨g, 3, none⟩ = some (.pointer pr)) ∧ Turn (fun _ => False) w W)
          ((refine HK.out _ ?_; repeat (first | with_reducible exact Turn.refl _ w | with_reducible exact HTC.out | with_reducible exact HTB.out | with_reducible exact HTA.out | with_reducible refine Turn.drew ?_ | with_reducible refine Turn.drewN ?_ _)))
          (first
            | (go_at_call 116; (with_reducible refine (HI.out _ ?_).mono ?_); exact (Turn.refl _ w).drew; rintro e w2 ⟨y, hy, q, rfl, hn, ht⟩; have HTA := Lib.hid ((Turn.refl _ w).drew.trans ht (fun _ _ f => f)); have HNA := Lib.hid hn; have HY := Lib.hid hy; clear hn ht hy)
            | (go_at_call 132; (with_reducible refine (over_any (g := g) (pl := .pointer pl) (HG.out _ ?_) (HL.out _ ?_) HNA.out ?_).mono ?_); exact HTA.out; exact HTA.out; (focus (have := cnt_put HY.out; omega)); rintro e w3 ⟨q2, rfl, hn2, ht2⟩; have HTB := Lib.hid (HTA.out.trans ht2 (fun _ _ f => f)); have HNB := Lib.hid hn2; clear hn2 ht2)
            | (go_at_call 133; (with_reducible refine (even_any HNB.out ?_).mono ?_); (focus (have := cnt_put HY.out; omega)); rintro e w4 ⟨z, hz, q3, rfl, hn3, ht3⟩; have HTC := Lib.hid (HTB.out.trans ht3 (fun _ _ f => f)); have HNC := Lib.hid hn3; have HZ := Lib.hid hz; clear hn3 ht3 hz)
            | fail)
        all_goals go_wp2
        all_goals go_ret
        all_goals exact ⟨z, by rw [HZ.out, flat_node, HY.out], q3, rfl, HNC.out, HTC.out⟩
      · have he : k0 = k := by
          by_cases e : k0 = k
          · exact e
          · exact absurd (rises_bytes.tot _ _ e (by simpa using h2)) h1
        subst he
        have hp : putK Op.bytesLess (Tr.node l k0 v0 r).flat k0 v = l.flat ++ (k0, v) :: r.flat := put_same rises_bytes (p := (k0, v0)) v r.flat l.flat hu3
        rw [hp]
        have HC : Hid (∀ W, Calls Tryz.prog 109 #[(.string ⟨k0.toArray⟩), (.string ⟨k0.toArray⟩)] W fun e w' => e = .returned (.int .i64 0) ∧ W = w') := fun W => by have := compare_any k0 k0 W; rw [ord_eq] at this; exact this
        clear ihl ihr hu1 hu2 hu3 hp h1 h2
        have HSZ : Hid (∀ W, Turn (fun _ => False) w W → W.cell? ⟨g, 4, none⟩ = some (.int .i64 ((l.cnt + r.cnt + 1 : Nat) : Int))) := fun W ht => (HG.out W ht).cells.2.2.2.2
        obtain ⟨m, hm⟩ : ∃ m, m = l.cnt + r.cnt + 1 := ⟨_, rfl⟩
        rw [← hm] at HSZ
        have HM := Lib.hid hm; clear hm
        have c2 := (HK.out _ (Turn.refl _ w).drew).1.1
        have c3 := (HK.out _ (Turn.refl _ w).drew).1.2
        have c4 := HSZ.out _ (Turn.refl _ w).drew
        go_enter Tryz.func116, Tryz.ntmps116
        go_wp2_with (go_at_call 109; refine (HC.out _).mono ?_; rintro e w' ⟨rfl, rfl⟩)
        go_region
        all_goals go_wp2
        all_goals go_ret
        all_goals exact ⟨.node l k0 v r, rfl, w.heap.size, rfl, ⟨w.heap.size, .pointer pl, .pointer pr, rfl, by rw [← HM.out]; exact Box.new w.drew 189 #[(.string ⟨k0.toArray⟩), (.int .i64 v), .pointer pl, .pointer pr, .int .i64 (m : Int)], HL.out _ ((Turn.refl _ w).drew.alloc _), HR.out _ ((Turn.refl _ w).drew.alloc _)⟩, (Turn.refl _ w).drew.alloc _⟩

end Go.Proofs.YticglepkbihldaaGreat.oms

/-
  A tree's least key; a tree in which a key has no value (keys string, values int).
-/
namespace Go.Proofs.YticglepkbihldaaGreat.oms
open Go.RowKit

/-- A tree, perhaps empty, whose list is L. -/
def Has0 (w w' : World) (e : Ending) (L : List ((List UInt8) × Int)) : Prop := ∃ (y : Tr (List UInt8) Int) (A : Option Addr), y.flat = L ∧ e = .returned (.pointer A) ∧ Nd w' y (.pointer A) ∧ Turn (fun _ => False) w w'
/-- How many nodes a tree has, as its top says. -/
def szAt (w : World) : Value → Nat
  | .pointer (some a) => match w.cell? ⟨a.block, 4, none⟩ with
    | some (.int _ n) => n.toNat
    | _ => 0
  | _ => 0
theorem sz_is {w : World} {x : Tr (List UInt8) Int} {p : Value} (h : Nd w x p) : szAt w p = x.cnt := by
  cases x with
  | nil => obtain rfl : p = .pointer none := h; rfl
  | node l k v r =>
    obtain ⟨g, pl, pr, rfl, hg, _, _⟩ := nd_node h
    unfold szAt
    dsimp only
    rw [hg.cells.2.2.2.2]
    rfl




end Go.Proofs.YticglepkbihldaaGreat.oms

/-
  The greatest key of a tree that is not above one; the map: New, Len, Put, Drop, Floor, Get, Copy (keys string, values int).
-/
namespace Go.Proofs.YticglepkbihldaaGreat.oms
open Go.RowKit

/-- What a search has found. -/
def Fnd (w : World) (u : Value) : Option ((List UInt8) × Int) → Prop
  | none => u = .pointer none
  | some p => ∃ g pl pr n, u = .pointer (some ⟨g, 0, none⟩) ∧ One w g p.1 p.2 pl pr n
theorem Fnd.later {w w' : World} {u : Value} {f : Option ((List UInt8) × Int)} (h : Fnd w u f) (ht : Turn (fun _ => False) w w') : Fnd w' u f := by
  cases f with
  | none => exact h
  | some p => obtain ⟨g, pl, pr, n, e, ho⟩ := h; exact ⟨g, pl, pr, n, e, ho.later ht⟩
theorem Fnd.shape {w : World} {u : Value} {f : Option ((List UInt8) × Int)} (h : Fnd w u f) : ∃ A, u = .pointer A := by
  cases f with
  | none => exact ⟨none, h⟩
  | some p => obtain ⟨g, pl, pr, n, e, ho⟩ := h; exact ⟨_, e⟩

set_option maxRecDepth 100000 in
theorem in_any (q : Nat) (k key : (List UInt8)) (w : World) (hq : w.cell? ⟨q, 0, none⟩ = some (.string ⟨k.toArray⟩)) :
    Calls Tryz.prog 137 #[(.string ⟨key.toArray⟩), .pointer (some ⟨q, 0, none⟩)] w fun e w' => e = .returned (.bool (!Op.bytesLess k key)) ∧ w = w' := by
  go_enter Tryz.func137, Tryz.ntmps137
  go_wp2_with (go_at_call 84; refine (less_any _ _ _).mono ?_; rintro e w' ⟨rfl, rfl⟩)
  go_ret
  exact ⟨rfl, rfl⟩

structure LastRel (w : World) (k : (List UInt8)) (ans : Option ((List UInt8) × Int)) (x0 x5 : Value) (y : Tr (List UInt8) Int) (f : Option ((List UInt8) × Int)) : Prop where
  tr : Nd w y x0
  up : Up Op.bytesLess y.flat
  fd : Fnd w x5 f
  is : Fl Op.bytesLess y.flat k f = ans
theorem last_right {w : World} {k : (List UInt8)} {ans : Option ((List UInt8) × Int)} {x5 : Value} {l r : Tr (List UInt8) Int} {k0 : (List UInt8)} {v0 : Int} {f : Option ((List UInt8) × Int)} {g n : Nat} {pl pr : Value} (h : LastRel w k ans (.pointer (some ⟨g, 0, none⟩)) x5 (.node l k0 v0 r) f)
    (ho : One w g k0 v0 pl pr n) (hr : Nd w r pr) (hk : Op.bytesLess k k0 = false) : LastRel w k ans pr (.pointer (some ⟨g, 0, none⟩)) r (some (k0, v0)) := by
  obtain ⟨h1, h2, h3⟩ := up_parts h.up
  refine ⟨hr, h2, ⟨g, pl, pr, n, rfl, ho⟩, ?_⟩
  rw [← h.is]
  have h4 := (up_cons.1 (up_append.1 h.up).2.1).1
  unfold Fl
  rw [flat_node, fl_below rises_bytes (p := (k0, v0)) hk r.flat (fun q hq => ?_) l.flat h3]
  · cases floorK Op.bytesLess r.flat k <;> rfl
  · obtain ⟨i, hi, e⟩ := List.mem_iff_getElem.1 hq
    exact h4 i q (by rw [List.getElem?_eq_getElem hi, e])
theorem last_left {w : World} {k : (List UInt8)} {ans : Option ((List UInt8) × Int)} {x0 x5 pl : Value} {l r : Tr (List UInt8) Int} {k0 : (List UInt8)} {v0 : Int} {f : Option ((List UInt8) × Int)} (h : LastRel w k ans x0 x5 (.node l k0 v0 r) f) (hl : Nd w l pl) (hk : Op.bytesLess k k0 = true) : LastRel w k ans pl x5 l f := by
  obtain ⟨h1, h2, h3⟩ := up_parts h.up
  refine ⟨hl, h1, h.fd, ?_⟩
  rw [← h.is]
  unfold Fl
  rw [flat_node, fl_above rises_bytes (p := (k0, v0)) hk r.flat l.flat]
theorem last_end {w : World} {k : (List UInt8)} {ans : Option ((List UInt8) × Int)} {x0 x5 : Value} {f : Option ((List UInt8) × Int)} (h : LastRel w k ans x0 x5 .nil f) : Fnd w x5 ans := by rw [← h.is]; exact h.fd

set_option maxRecDepth 100000 in
set_option maxHeartbeats 2000000 in
theorem last_any (q : Nat) (k : (List UInt8)) {x : Tr (List UInt8) Int} {w : World} {p : Value} (h : Nd w x p) (hu : Up Op.bytesLess x.flat) (hq : Box w q 9 #[(.string ⟨k.toArray⟩)]) :
    Calls Tryz.prog 136 #[p, .func (.func 137) #[] #[.pointer (some ⟨q, 0, none⟩)]] w fun e w' => (∃ u, e = .returned u ∧ Fnd w u (floorK Op.bytesLess x.flat k)) ∧ ∃ n, w' = w.drewN n := by
  have HQ := Lib.hid hq
  have HR : Hid (LastRel w k (floorK Op.bytesLess x.flat k) p (.pointer none) x none) := ⟨h, hu, rfl, by unfold Fl; cases floorK Op.bytesLess x.flat k <;> rfl⟩
  generalize floorK Op.bytesLess x.flat k = ans at *
  clear h hu hq
  go_enter Tryz.func136, Tryz.ntmps136
  go_wp2
  go_loopw [0, 5] (fun x0 x5 wr => (∃ y f, LastRel w k ans x0 x5 y f) ∧ ∃ n, wr = w.drewN n) (fun x0 _ _ => szAt w x0)
  case atStart => exact ⟨⟨x, none, HR.out⟩, 0, rfl⟩
  case round =>
    obtain ⟨⟨y, f, hrl⟩, n, rfl⟩ := hrel
    have HRL := Lib.hid hrl
    have HSZ := Lib.hid (sz_is hrl.tr)
    obtain ⟨A5, rfl⟩ := hrl.fd.shape
    cases y with
    | nil =>
      obtain rfl : _ = Value.pointer none := hrl.tr
      clear hrl
      go_wp2
      go_ret
      exact ⟨⟨_, rfl, last_end HRL.out⟩, n, rfl⟩
    | node l k0 v0 r =>
      obtain ⟨g, pl, pr, rfl, hg, hl, hr⟩ := nd_node hrl.tr
      obtain ⟨c0, -, c2, c3, -⟩ := hg.cells
      have HG := Lib.hid hg; have HL := Lib.hid hl; have HR2 := Lib.hid hr
      have HSL := Lib.hid (sz_is hl); have HSR := Lib.hid (sz_is hr)
      obtain ⟨pl, rfl⟩ := hl.shape
      obtain ⟨pr, rfl⟩ := hr.shape
      have HI := Lib.hid (in_any q k k0 (w.drewN n) ((HQ.out.turn ((Turn.refl (fun _ => False) w).drewN n) (fun f => f)).cell 0))
      clear hrl hg hl hr
      cases hk : Op.bytesLess k k0 with
      | false =>
        rw [hk] at HI
        have HX := Lib.hid (last_right HRL.out HG.out HR2.out hk)
        clear hk
        go_wp2_with (go_at_call 137; refine HI.out.mono ?_; rintro e w' ⟨rfl, rfl⟩)
        go_quiet (fail)
        go_wp2
        go_roundw
        case rel => exact ⟨⟨r, _, HX.out⟩, n + nq, by simp [World.drewN, Nat.add_assoc]⟩
        case measure => have h1 := HSZ.out; have h2 := HSR.out; rw [cnt_node] at h1; show szAt w _ < szAt w _; rw [h1, h2]; omega
      | true =>
        rw [hk] at HI
        have HX := Lib.hid (last_left HRL.out HL.out hk)
        clear hk
        go_wp2_with (go_at_call 137; refine HI.out.mono ?_; rintro e w' ⟨rfl, rfl⟩)
        go_roundw
        case rel => exact ⟨⟨l, _, HX.out⟩, _, rfl⟩
        case measure => have h1 := HSZ.out; have h2 := HSL.out; rw [cnt_node] at h1; show szAt w _ < szAt w _; rw [h1, h2]; omega

/-- The map at block g: its keys and values, in order. -/
structure MP (w : World) (g : Nat) (L : List ((List UInt8) × Int)) : Prop where
  out : ∃ (x : Tr (List UInt8) Int) (A : Option Addr), Box w g 167 #[.pointer A] ∧ Nd w x (.pointer A) ∧ x.flat = L
  up : Up Op.bytesLess L
theorem MP.turn {S : Nat → Prop} {w w' : World} {g : Nat} {L : List ((List UInt8) × Int)} (h : MP w g L) (ht : Turn S w w') (h1 : ¬ S g) (h2 : ∀ i cs, Box w i 189 cs → ¬ S i) : MP w' g L := by
  obtain ⟨x, A, hb, hx, e⟩ := h.out
  exact ⟨⟨x, A, hb.turn ht h1, hx.turn ht h2, e⟩, h.up⟩
theorem MP.later {w w' : World} {g : Nat} {L : List ((List UInt8) × Int)} (h : MP w g L) (ht : Turn (fun _ => False) w w') : MP w' g L := h.turn ht (fun f => f) (fun _ _ _ f => f)
/-- A map, and its block turned. -/
theorem MP.set {w w' : World} {g : Nat} {L M : List ((List UInt8) × Int)} {y : Tr (List UInt8) Int} {A : Option Addr} (h : MP w g L) (ht : Turn (fun _ => False) w w') (hn : Nd w' y (.pointer A)) (hf : y.flat = M) (hu : Up Op.bytesLess M) :
    MP (w'.setCell ⟨g, 0, none⟩ (.pointer A)) g M ∧ Turn (fun j => j = g) w (w'.setCell ⟨g, 0, none⟩ (.pointer A)) := by
  obtain ⟨x, A0, hb, hx, e⟩ := h.out
  have hb' := hb.turn ht (fun f => f)
  have htt : Turn (fun j => j = g) w' (w'.setCell ⟨g, 0, none⟩ (.pointer A)) := Turn.setCell (S := fun j => j = g) (p := ⟨g, 0, none⟩) (Turn.refl _ w') (fun _ => rfl) _
  refine ⟨⟨⟨y, A, hb'.set 0 _, hn.turn htt (fun i cs hi e => ?_), hf⟩, hu⟩, (ht.mono (fun _ _ f => f.elim)).trans htt (fun k hk e => e)⟩
  subst e
  have e2 := (show w'.heap[i]? = _ from hi).symm.trans hb'
  injection e2 with e2
  injection e2 with _ e3
  exact absurd e3 (by decide)

set_option maxRecDepth 100000 in
theorem new_any (w : World) : Calls Tryz.prog 89 #[] w fun e w' => e = .returned (.pointer (some ⟨w.heap.size, 0, none⟩)) ∧ MP w' w.heap.size [] ∧ Turn (fun _ => False) w w' := by
  go_enter Tryz.func89, Tryz.ntmps89
  go_wp2
  go_ret
  exact ⟨rfl, ⟨⟨.nil, none, Box.new w _ _, rfl, rfl⟩, up_nil⟩, (Turn.refl _ w).alloc _⟩

set_option maxRecDepth 100000 in
theorem len_any {w : World} {g : Nat} {L : List ((List UInt8) × Int)} (h : MP w g L) : Calls Tryz.prog 91 #[.pointer (some ⟨g, 0, none⟩)] w fun e w' => e = .returned (.int .i64 (L.length : Int)) ∧ w = w' := by
  obtain ⟨x, A, hb, hx, rfl⟩ := h.out
  have hc := hb.cell 0
  rw [Tr.cnt_flat]
  have HX := Lib.hid hx
  clear h hb hx
  go_enter Tryz.func91, Tryz.ntmps91
  go_wp2_with (go_at_call 117; refine (count_any HX.out).mono ?_; rintro e w' ⟨rfl, rfl⟩)
  go_ret
  exact ⟨rfl, rfl⟩

set_option maxRecDepth 100000 in
set_option maxHeartbeats 1000000 in
theorem put_any (k : (List UInt8)) (v : Int) {w : World} {g : Nat} {L : List ((List UInt8) × Int)} (h : MP w g L) (hl : L.length ≤ 900000) :
    Calls Tryz.prog 90 #[.pointer (some ⟨g, 0, none⟩), (.string ⟨k.toArray⟩), (.int .i64 v)] w fun e w' => e = .returned (.bool (!hasK Op.bytesLess L k)) ∧ MP w' g (putK Op.bytesLess L k v) ∧ Turn (fun j => j = g) w w' := by
  have HM := Lib.hid h
  obtain ⟨x, A, hb, hx, hf⟩ := h.out
  have HL := Lib.hid (len_any h)
  have HU := Lib.hid (put_up rises_bytes h.up k v)
  have HW := Lib.hid (with_any k v x w _ hx (by rw [← Tr.cnt_flat, hf]; omega) (by rw [hf]; exact h.up))
  rw [hf] at HW
  have hc := hb.cell 0
  have hfree := hb.free 0
  have HB := Lib.hid hb
  have HN := Lib.hid (put_size (lt := Op.bytesLess) L k v)
  have hl2 : (putK Op.bytesLess L k v).length ≤ 900001 := by rw [HN.out]; split <;> omega
  obtain ⟨b, hbb⟩ : ∃ b, b = hasK Op.bytesLess L k := ⟨_, rfl⟩
  rw [← hbb] at HN ⊢
  have hgt : (L.length : Int) < ((putK Op.bytesLess L k v).length : Int) ↔ b = false := by rw [HN.out]; cases b <;> simp <;> omega
  generalize putK Op.bytesLess L k v = M at *
  clear h hb hx hf hbb
  go_enter Tryz.func90, Tryz.ntmps90
  go_wp2_with (go_at_call 91; refine (HL.out).mono ?_; rintro e w' ⟨rfl, rfl⟩)
  go_at_call 116
  with_reducible refine (HW.out).mono ?_
  rintro e w2 ⟨y, hy, q, rfl, hn, ht⟩
  have hc2 := (HB.out.turn ht (fun f => f)).cell 0
  have hfree2 := (HB.out.turn ht (fun f => f)).free 0
  have HS := Lib.hid (HM.out.set ht hn hy HU.out)
  have HL2 := Lib.hid (len_any HS.out.1)
  clear hn ht hy
  go_wp2_with ((go_at_call 91; with_reducible refine (HL2.out).mono ?_; rintro e w' ⟨rfl, rfl⟩))
  go_ret
  exact ⟨rfl, HS.out⟩


/-- What Floor answers. -/
def floorA : Option ((List UInt8) × Int) → Value
  | some p => .tuple #[(.string ⟨p.1.toArray⟩), (.int .i64 p.2), .bool true]
  | none => .tuple #[(.string ⟨#[]⟩), (.int .i64 0), .bool false]

set_option maxRecDepth 100000 in
set_option maxHeartbeats 1000000 in
theorem floor_any (k : (List UInt8)) {w : World} {g : Nat} {L : List ((List UInt8) × Int)} (h : MP w g L) :
    Calls Tryz.prog 120 #[.pointer (some ⟨g, 0, none⟩), (.string ⟨k.toArray⟩)] w fun e w' => e = .returned (floorA (floorK Op.bytesLess L k)) ∧ Turn (fun _ => False) w w' := by
  obtain ⟨x, A, hb, hx, rfl⟩ := h.out
  have HW := Lib.hid (last_any w.heap.size k (w := w.alloc (.cells #[(.string ⟨k.toArray⟩)] 9)) (hx.later ((Turn.refl _ w).alloc _)) h.up (Box.new w _ _))
  have hc := (hb.alloc (.cells #[(.string ⟨k.toArray⟩)] 9)).cell 0
  clear h hb hx
  generalize floorK Op.bytesLess x.flat k = ans at *
  cases ans with
  | none =>
    go_enter Tryz.func120, Tryz.ntmps120
    go_wp2_with (go_at_call 136; refine (HW.out).mono ?_; rintro e w' ⟨⟨_, rfl, rfl⟩, n, rfl⟩)
    go_ret3
    exact ⟨rfl, ((Turn.refl _ w).alloc _).drewN n⟩
  | some p =>
    go_enter Tryz.func120, Tryz.ntmps120
    go_wp2_with (go_at_call 136; refine (HW.out).mono ?_; rintro e w' ⟨⟨_, rfl, u, pl, pr, m, rfl, ho⟩, n, rfl⟩; obtain ⟨c0, c1, -, -, -⟩ := ho.cells; clear ho)
    go_quiet (fail)
    go_wp2
    go_ret3
    exact ⟨rfl, (((Turn.refl _ w).alloc _).drewN n).drewN _⟩


/-- What Get answers. -/
def getA : Option Int → Value
  | some v => .tuple #[(.int .i64 v), .bool true]
  | none => .tuple #[(.int .i64 0), .bool false]

set_option maxRecDepth 100000 in
set_option maxHeartbeats 1000000 in
theorem get_any (k : (List UInt8)) {w : World} {g : Nat} {L : List ((List UInt8) × Int)} (h : MP w g L) :
    Calls Tryz.prog 93 #[.pointer (some ⟨g, 0, none⟩), (.string ⟨k.toArray⟩)] w fun e w' => e = .returned (getA (getK Op.bytesLess L k)) ∧ Turn (fun _ => False) w w' := by
  have HW := Lib.hid (floor_any k h)
  have HG := Lib.hid (get_floor rises_bytes h.up k)
  clear h
  cases hf : floorK Op.bytesLess L k with
  | none =>
    rw [hf] at HW HG
    clear hf
    go_enter Tryz.func93, Tryz.ntmps93
    go_wp2_with (go_at_call 120; refine (HW.out).mono ?_; rintro e w' ⟨rfl, ht⟩; have HT := Lib.hid ht; clear ht; unfold floorA)
    go_ret2
    exact ⟨by rw [HG.out]; rfl, HT.out⟩
  | some p =>
    rw [hf] at HW HG
    clear hf
    cases hl : Op.bytesLess p.1 k with
    | true =>
      have HL : Hid (∀ W, Calls Tryz.prog 84 #[(.string ⟨p.1.toArray⟩), (.string ⟨k.toArray⟩)] W fun e w' => e = .returned (.bool true) ∧ W = w') := fun W => by have := less_any p.1 k W; rw [hl] at this; exact this
      have HG2 : Hid (getK Op.bytesLess L k = none) := by show _ = _; rw [HG.out]; simp [hl]
      clear hl HG
      go_enter Tryz.func93, Tryz.ntmps93
      go_wp2_with (first
        | (go_at_call 120; refine (HW.out).mono ?_; rintro e w' ⟨rfl, ht⟩; have HT := Lib.hid ht; clear ht; unfold floorA)
        | (go_at_call 84; refine (HL.out _).mono ?_; rintro e w' ⟨rfl, rfl⟩)
        | fail)
      go_ret2
      exact ⟨by rw [HG2.out]; rfl, HT.out⟩
    | false =>
      have HL : Hid (∀ W, Calls Tryz.prog 84 #[(.string ⟨p.1.toArray⟩), (.string ⟨k.toArray⟩)] W fun e w' => e = .returned (.bool false) ∧ W = w') := fun W => by have := less_any p.1 k W; rw [hl] at this; exact this
      have HG2 : Hid (getK Op.bytesLess L k = some p.2) := by show _ = _; rw [HG.out]; simp [hl]
      clear hl HG
      go_enter Tryz.func93, Tryz.ntmps93
      go_wp2_with (first
        | (go_at_call 120; refine (HW.out).mono ?_; rintro e w' ⟨rfl, ht⟩; have HT := Lib.hid ht; clear ht; unfold floorA)
        | (go_at_call 84; refine (HL.out _).mono ?_; rintro e w' ⟨rfl, rfl⟩)
        | fail)
      go_ret2
      exact ⟨by rw [HG2.out]; rfl, HT.out⟩


end Go.Proofs.YticglepkbihldaaGreat.oms

/-
  A range over a function that may stand in an iterator itself: what an iterator promises ('Feeds'), where a round tells that what holds no cells, behind the record of its loop, is as it was; and the statement's law ('over2').
-/
namespace Go.Proofs.YticglepkbihldaaGreat
open Go.RowKit

/-- What holds no cells, from block B on, is as it was. -/
structure Still (B : Nat) (W W' : World) : Prop where
  size : W.heap.size ≤ W'.heap.size
  same : ∀ (k : Nat) (o : Obj), B ≤ k → W.heap[k]? = some o → o.isCells = false → W'.heap[k]? = some o
theorem Still.refl (B : Nat) (W : World) : Still B W W := ⟨Nat.le_refl _, fun _ _ _ h _ => h⟩
theorem Still.trans {B : Nat} {W1 W2 W3 : World} (h : Still B W1 W2) (k : Still B W2 W3) : Still B W1 W3 := ⟨Nat.le_trans h.size k.size, fun i o hb hi ho => k.same i o hb (h.same i o hb hi ho) ho⟩
theorem Still.le {B B' : Nat} {W W' : World} (h : Still B W W') (hb : B ≤ B') : Still B' W W' := ⟨h.size, fun k o hk hw ho => h.same k o (Nat.le_trans hb hk) hw ho⟩
theorem Still.turned {B : Nat} {W W' : World} (h : Turn (fun _ => False) W W') : Still B W W' := ⟨h.size, fun k _ _ hk _ => (h.block k (Array.getElem?_eq_some_iff.1 hk).1 (fun f => f)).trans hk⟩
theorem Still.others {B : Nat} {W W' : World} (h : KeepsOthers W W') : Still B W W' := ⟨h.size, fun k o _ hk ho => h.same k o hk ho⟩
theorem Still.setCell {B : Nat} (W : World) (a : Addr) (v : Value) : Still B W (W.setCell a v) := Still.others (KeepsOthers.setCell W a v)
theorem Still.put {B : Nat} (W : World) (l : Nat) (o : Obj) (hl : l < B) : Still B W (W.putObj l o) := ⟨by simp [World.putObj], fun k _ hk hw _ => (World.putObj_heap_other (by omega)).trans hw⟩

/-- What a round's body owes. -/
def postF {α : Type} (B : Nat) (S : Nat → Prop) (I : List α → World → Prop) (Ix : Code → List α → World → Prop) (xs : List α) (W : World) : Exit → Act → World → Prop
  | .normal, _, W' => Still B W W' ∧ Turn S W W' ∧ I xs W'
  | .ret, _, W' => Still B W W' ∧ Ix .ret xs W'
  | .exit id, _, W' => Still B W W' ∧ Ix (.exit id) xs W'
  | .goto t, _, W' => Still B W W' ∧ Ix (.goto t) xs W'
  | .panic _, _, _ => False
  | .outgrown, _, _ => False

theorem Holds.le {β : Type} {D D' : Nat} {I : β → World → Prop} (h : Holds D I) (hd : D ≤ D') : Holds D' I :=
  fun s A B hs ht => h s A B hs (ht.mono (fun _ _ ⟨h1, o, h2, h3⟩ => ⟨Nat.le_trans hd h1, o, h2, h3⟩))

/-- The contract of an iterator value: what it hands a round ('Gv'), what a round that goes on may turn ('S'), what has come when it is done ('All'), or stopped ('Part'). -/
def Feeds {α : Type} (n : Nat) (g : Nat) (lb : Array Value) (encs : α → Array Value) (S : Nat → Prop) (Gv : List α → α → World → Prop) (All Part : List α → Prop) (w : World) : Prop :=
  ∀ (l : Nat) (J Jx : List α → World → Prop) (W : World), Turn (fun _ => False) w W → l < W.heap.size → (∀ k, S k → k < W.heap.size) → Holds W.heap.size J → Holds W.heap.size Jx →
    (∀ pre x W1, J pre W1 → Gv pre x W1 → YieldAt Fence.wide (n - 1) Tryz.prog l (encs x) W1 fun e W' =>
      (e = .returned (.bool true) ∧ J (pre ++ [x]) W' ∧ Turn S W1 W' ∧ Still (l + 1) W1 W') ∨ (e = .returned (.bool false) ∧ Jx (pre ++ [x]) W' ∧ Still (l + 1) W1 W')) →
    J [] W →
    CallsIn Fence.wide n Tryz.prog g (#[.func (.yield l) #[] #[]] ++ lb) W fun e W' => (∃ v, e = .returned v) ∧ ((∃ xs, All xs ∧ J xs W') ∨ (∃ pre, Part pre ∧ Jx pre W'))

/-- 'for .. := range g { body }' over an iterator that has such a contract. -/
theorem over2 {α : Type} {n : Nat} {g : Operand} {ps : Array Tmp} {assign body : Code} {Q : Exit → Act → World → Prop} {a : Act} {w w0 : World} (h1 : 1 ≤ n)
    {gf : Nat} {lb : Array Value} (hg : a.eval g = .func (.func gf) #[] lb) (eg : ∀ args w, (callFunc gf args).run Tryz.prog w = .ok (.enter gf args) w)
    {encs : α → Array Value} {S : Nat → Prop} {Gv : List α → α → World → Prop} {All Part : List α → Prop} (hseq : Feeds (n - 1) gf lb encs S Gv All Part w0) (hb0 : Turn (fun _ => False) w0 w)
    (hS : S (w.heap.size + 1)) (hS2 : ∀ k, S k → k < w.heap.size + 2) (hG : ∀ pre, Holds w.heap.size (Gv pre)) (hps : ∀ x, (encs x).size = ps.size)
    (I : List α → World → Prop) (Ix : Code → List α → World → Prop) (hI : Holds w.heap.size I) (hIx : ∀ c, Holds w.heap.size (Ix c)) (h0 : I [] w) (a₁ : α → Act)
    (hassign : ∀ (l : Nat) (x : α) (W : World) (K : Act → World → Prop), K (a₁ x) W →
      assign.wpIn (Fence.wide.inRound l) (n - 1 - 1) Tryz.prog (Exit.then K (fun _ _ _ => False)) { tmps := (ps.zip (encs x)).foldl (fun t (p, v) => t.setIfInBounds p v) a.tmps, defers := [] } W)
    (hbody : ∀ (l : Nat) (pre : List α) (x : α) (W : World), I pre W → Gv pre x W → body.wpIn (Fence.wide.inRound l) (n - 1 - 1) Tryz.prog (postF w.heap.size S I Ix (pre ++ [x]) W) (a₁ x) W)
    (hdone : ∀ (D : Nat) (xs : List α) (W : World), w.heap.size ≤ D → All xs → I xs W → W.heap[D]? = some (.deferred (some [])) → Q .normal { a with defers := { target := .collected D, args := #[] } :: a.defers } W)
    (hstop : ∀ (D : Nat) (c : Code) (pre : List α) (W : World), w.heap.size ≤ D → Part pre → Ix c pre W → W.heap[D]? = some (.deferred (some [])) → c.wpIn Fence.wide n Tryz.prog Q { a with defers := { target := .collected D, args := #[] } :: a.defers } W) :
    (Code.rangeFunc g ps assign body).wpIn Fence.wide n Tryz.prog Q a w := by
  refine wpIn_rangeFunc fun fn hfn => ?_
  obtain ⟨R, hR⟩ : ∃ R : LoopState → Option Code → Obj, R = fun st pe => .loop { state := st, pending := pe, fn, tmps := a.tmps, params := ps, assign, body, defers := w.heap.size } := ⟨_, rfl⟩
  -- the two blocks of the statement: the rounds' deferred calls, and its record, in a state
  obtain ⟨Bk, hBk⟩ : ∃ Bk : LoopState → Option Code → World → Prop, Bk = fun st pe W => W.heap[w.heap.size + 1]? = some (R st pe) ∧ W.heap[w.heap.size]? = some (.deferred (some [])) := ⟨_, rfl⟩
  obtain ⟨W1, hW1⟩ : ∃ W1, (w.alloc (.deferred (some []))).alloc (R .ready none) = W1 := ⟨_, rfl⟩
  have hsz : W1.heap.size = w.heap.size + 2 := by rw [← hW1]; simp
  have t1 : Turn (fun _ => False) w W1 := by rw [← hW1]; exact ((Turn.refl _ w).alloc _).alloc _
  have k1 : Bk .ready none W1 := by
    rw [hBk]
    refine ⟨?_, ?_⟩
    · have := World.alloc_heap_new (w.alloc (.deferred (some []))) (R .ready none)
      rw [World.size_alloc] at this
      rw [← hW1]
      exact this
    · rw [← hW1]
      exact (Below.heap_alloc _ _ _ (by simp)).trans (World.alloc_heap_new w _)
  have move : ∀ {D : Nat} {st : LoopState} {pe : Option Code} {A B : World}, w.heap.size + 2 ≤ D → Turn (odd D A) A B → Bk st pe A → Bk st pe B := by
    intro D st pe A B hD ht hk
    rw [hBk] at hk ⊢
    have far : ∀ k, k < w.heap.size + 2 → k < A.heap.size → B.heap[k]? = A.heap[k]? := fun k hk1 hk2 => ht.block k hk2 (fun s => by have := s.1; omega)
    exact ⟨(far _ (by omega) (Array.getElem?_eq_some_iff.1 hk.1).1).trans hk.1, (far _ (by omega) (Array.getElem?_eq_some_iff.1 hk.2).1).trans hk.2⟩
  have put : ∀ {st st' : LoopState} {pe pe' : Option Code} {A : World}, Bk st pe A → Bk st' pe' (A.putObj (w.heap.size + 1) (R st' pe')) ∧ Turn (odd w.heap.size A) A (A.putObj (w.heap.size + 1) (R st' pe')) ∧ Turn S A (A.putObj (w.heap.size + 1) (R st' pe')) := by
    intro st st' pe pe' A hk
    rw [hBk] at hk ⊢
    refine ⟨⟨World.putObj_heap_same (Array.getElem?_eq_some_iff.1 hk.1).1, (World.putObj_heap_other (by omega)).trans hk.2⟩, Turn.putObj _ _ _ ⟨by omega, _, hk.1, ?_⟩, Turn.putObj _ _ _ hS⟩
    rw [hR]
    rfl
  have keepS : True := trivial
  have keep : ∀ {st : LoopState} {pe : Option Code} {A B : World}, Still w.heap.size A B → Bk st pe A → Bk st pe B := by
    intro st pe A B h hk
    rw [hBk] at hk ⊢
    exact ⟨h.same _ _ (Nat.le_succ _) hk.1 (by rw [hR]; rfl), h.same _ _ (Nat.le_refl _) hk.2 rfl⟩
  refine ⟨w.heap.size + 1, [{ target := .collected w.heap.size, args := #[] }], W1, { target := .fn (.func gf) lb, args := #[.func (.yield (w.heap.size + 1)) #[] #[]] }, W1, gf,
    #[.func (.yield (w.heap.size + 1)) #[] #[]] ++ lb, W1, ?_, ?_, ?_, ?_, fun _ => h1, ?_⟩
  · rw [← hW1, hR]
    exact run_enterLoop_outer _ _ _ _ _
  · simp only [resolve, hg]
    simp [go_sem]
  · intro f' _
    trivial
  · simp [invoke, go_sem, eg]
  · refine (hseq (w.heap.size + 1) (fun pre W => I pre W ∧ Bk .ready none W) (fun pre W => ∃ c, Ix c pre W ∧ Bk .done (some c) W) W1 (hb0.trans t1 (fun _ _ f => f)) (by omega) (fun k hk => by have := hS2 k hk; omega)
      (fun s A B hs ht => ⟨(hI.le (by omega)) s A B hs.1 ht, move (by omega) ht hs.2⟩)
      (fun s A B hs ht => by
        obtain ⟨c, hc, hk⟩ := hs
        exact ⟨c, ((hIx c).le (by omega)) s A B hc ht, move (by omega) ht hk⟩)
      ?_ ⟨hI _ _ _ h0 t1.none, k1⟩).mono ?_
    · rintro pre x W ⟨hi, hk⟩ hgv
      have hl : W.heap[w.heap.size + 1]? = some (R .ready none) := by rw [hBk] at hk; exact hk.1
      rw [hR] at hl
      have hy := run_yield (P := Tryz.prog) (args := encs x) hl (hps x)
      refine ⟨fn, _, assign, body, hy, roundIn_of_wpIn hfn (hassign _ x W _ ⟨_, run_beginRound hl rfl, ?_⟩)⟩
      have hp := put (st' := .busy) (pe' := none) hk
      rw [hR] at hp
      refine wpIn_mono (hbody _ pre x _ (hI _ _ _ hi hp.2.1) (hG _ _ _ _ hgv hp.2.1)) ?_
      have ends : ∀ (jump : Option Code) (W3 : World), Still w.heap.size (W.putObj (w.heap.size + 1) (.loop { state := .busy, pending := none, fn, tmps := a.tmps, params := ps, assign, body, defers := w.heap.size })) W3 →
          ∃ W4, (Instr.endRound (w.heap.size + 1) jump).run Tryz.prog W3 = .ok (.bool jump.isNone) W4 ∧ Bk (if jump.isNone then .ready else .done) jump W4 ∧ Turn (odd w.heap.size W3) W3 W4 ∧ Turn S W3 W4 ∧ Still (w.heap.size + 1 + 1) W W4 := by
        intro jump W3 hk3
        have h3 := keep hk3 hp.1
        have hl3 : W3.heap[w.heap.size + 1]? = some (R .busy none) := by rw [hBk] at h3; exact h3.1
        have h4 := put (st' := if jump.isNone then .ready else .done) (pe' := jump) h3
        rw [hR] at hl3 h4
        exact ⟨_, run_endRound jump hl3, h4.1, h4.2.1, h4.2.2, ((Still.put W _ _ (Nat.lt_succ_self _)).trans (hk3.le (by omega))).trans (Still.put W3 _ _ (Nat.lt_succ_self _))⟩
      rintro e a3 W3 hpost
      cases e with
      | normal =>
        obtain ⟨hk3, ht3, hi3⟩ := hpost
        obtain ⟨W4, hr, hb4, ht4, hu4, hs4⟩ := ends none W3 hk3
        exact ⟨_, _, hr, .inl ⟨rfl, ⟨hI _ _ _ hi3 ht4, hb4⟩, (hp.2.2.trans ht3 (fun _ _ s => s)).trans hu4 (fun _ _ s => s), hs4⟩⟩
      | ret =>
        obtain ⟨hk3, hi3⟩ := hpost
        obtain ⟨W4, hr, hb4, ht4, hu4, hs4⟩ := ends (some .ret) W3 hk3
        exact ⟨_, _, hr, .inr ⟨rfl, ⟨.ret, hIx _ _ _ _ hi3 ht4, hb4⟩, hs4⟩⟩
      | exit id =>
        obtain ⟨hk3, hi3⟩ := hpost
        obtain ⟨W4, hr, hb4, ht4, hu4, hs4⟩ := ends (some (.exit id)) W3 hk3
        exact ⟨_, _, hr, .inr ⟨rfl, ⟨.exit id, hIx _ _ _ _ hi3 ht4, hb4⟩, hs4⟩⟩
      | goto t =>
        obtain ⟨hk3, hi3⟩ := hpost
        obtain ⟨W4, hr, hb4, ht4, hu4, hs4⟩ := ends (some (.goto t)) W3 hk3
        exact ⟨_, _, hr, .inr ⟨rfl, ⟨.goto t, hIx _ _ _ _ hi3 ht4, hb4⟩, hs4⟩⟩
      | panic ch => exact hpost.elim
      | outgrown => exact hpost.elim
    · have shut : ∀ {st : LoopState} {pe : Option Code} {W2 : World}, st ≠ .busy → Bk st pe W2 → ∃ W3, (Instr.endLoop (w.heap.size + 1)).run Tryz.prog W2 = .ok pe W3 ∧ W3.heap[w.heap.size]? = some (.deferred (some [])) ∧ Turn (odd w.heap.size W2) W2 W3 := by
        intro st pe W2 hst hk
        have hl : W2.heap[w.heap.size + 1]? = some (R st pe) := by rw [hBk] at hk; exact hk.1
        have h4 := put (st' := .exhausted) (pe' := pe) hk
        have h5 : (W2.putObj (w.heap.size + 1) (R .exhausted pe)).heap[w.heap.size]? = some (.deferred (some [])) := by have h6 := h4.1; rw [hBk] at h6; exact h6.2
        rw [hR] at hl h4 h5
        exact ⟨_, run_endLoop hl hst, h5, h4.2.1⟩
      rintro e W2 ⟨⟨v, rfl⟩, (⟨xs, hA, hi, hk⟩ | ⟨pre, hP, c, hi, hk⟩)⟩
      · obtain ⟨W3, hr, hd, ht⟩ := shut (by simp) hk
        exact ⟨none, W3, hr, hdone _ xs _ (Nat.le_refl _) hA (hI _ _ _ hi ht) hd⟩
      · obtain ⟨W3, hr, hd, ht⟩ := shut (by simp) hk
        exact ⟨some c, W3, hr, hstop _ c pre _ (Nat.le_refl _) hP (hIx c _ _ _ hi ht) hd⟩

end Go.Proofs.YticglepkbihldaaGreat

/-
  A region that draws its order and only reads, in a round of a range over a function: one walk of the text's order serves every order.
-/
namespace Go.Proofs.YticglepkbihldaaGreat
open Go.RowKit

def noDefer : Op → Bool
  | .defer _ => false
  | _ => true
theorem noDefer_ne {o : Op} (h : noDefer o = true) : ∀ c, o ≠ .defer c := by
  rintro c rfl
  cases h

section
variable {F : Fence} {n : Nat} {P : Program} {C : World → Prop} {ops : Array Oper} {md : Region.Mode}

theorem quiet_op {o : Oper} {a : Act} {K : Act → Prop} {K' : Act → World → Prop} {Q' : Exit → Act → World → Prop} {w : World} (hd : noDefer o.op = true) (hw : C w) (h : ∀ a w', C w' → K a → K' a w')
    (ha : o.askedIn F P a C) (hh : o.quietIn F n P a C K) : o.wpIn F n P a w K' Q' := by
  obtain ⟨v, h1, h2⟩ := hh
  have h3 := h1 w hw
  unfold Oper.quietAtIn at h3
  unfold Oper.wpIn
  rw [Oper.semAt_eq _ _ _ (noDefer_ne hd)]
  refine ⟨ha w hw, ?_⟩
  generalize (execOp a.eval o).run P w = r at *
  rcases r with ⟨x, w'⟩ | ⟨x, w'⟩
  · cases x <;> simp only [Oper.quietUponIn] at h3 <;> simp only [Oper.uponIn]
    case value u =>
      rw [h3.1, h3.2]
      exact h _ _ hw h2
    case skip =>
      rw [h3.1, ← h3.2]
      exact h _ _ hw h2
    case enter f args =>
      rw [h3.1]
      exact ⟨h3.2.1, h3.2.2.mono fun e w'' ⟨he, hw''⟩ => by subst he; exact h _ _ hw'' h2⟩
  · simp only [Oper.quietUponIn] at h3

theorem quiet_at (hnd : ∀ o ∈ ops.toList, noDefer o.op = true) {i : Nat} {a : Act} {K : Act → Prop} {K' : Act → World → Prop} {Q' : Exit → Act → World → Prop} {w : World} (hC : C w) (h : ∀ a w', C w' → K a → K' a w')
    (hh : qOpIn F n P ops C i K a) : wpOpIn F n P ops Q' i K' a w := by
  unfold qOpIn at hh
  unfold wpOpIn
  cases ho : ops[i]? with
  | none =>
    simp only [ho] at hh
    exact h _ _ hC hh
  | some o =>
    simp only [ho] at hh
    have hm : noDefer o.op = true := hnd o (Array.mem_toList_iff.2 (Array.mem_of_getElem? ho))
    by_cases hw : Region.wanted o (yielded ops a.tmps)
    · simp only [hw, if_true] at hh ⊢
      exact quiet_op hm hC h hh.1 hh.2
    · simp only [hw] at hh ⊢
      exact ⟨hh.1 w hC, h _ _ hC hh.2⟩

theorem quiet_any (hnd : ∀ o ∈ ops.toList, noDefer o.op = true) {Q : Act → Prop} {Q' : Exit → Act → World → Prop} (hQ : ∀ a w, C w → Q a → Q' .normal a w) : ∀ (fuel : Nat) (listed : Array Bool) (a : Act) (w : World), C w →
    wpAnyQIn F n P md ops C Q fuel listed a → wpAnyIn F n P md ops Q' fuel listed a w
  | 0, _, _, _, hw, h => ⟨h.1, hQ _ _ hw h.2⟩
  | fuel + 1, _, _, _, hw, h => ⟨fun h0 => hQ _ _ hw (h.1 h0), fun i hi => quiet_at hnd hw (fun a' w' hw' => quiet_any hnd hQ fuel _ a' w' hw') (h.2 i hi)⟩

theorem quiet_region {id : Nat} {Q : Exit → Act → World → Prop} {a : Act} {w : World} {l : List Oper} (hnd : (l.all fun o => noDefer o.op) = true) (hm : P.follows .mixedOrders = true) (hB : Region.lexB .any l.toArray = true)
    (h : wpQuietIn F n P l.toArray (fun w' => ∃ n, w' = w.drewN n) (fun a' => ∀ w', (∃ n, w' = w.drewN n) → Q .normal a' w') l a) : (Code.region id l.toArray true).wpIn F n P Q a w := by
  simp only [Region.lexB, Bool.and_eq_true] at hB
  have hnd' : ∀ o ∈ l.toArray.toList, noDefer o.op = true := fun o ho => by
    rw [List.all_eq_true] at hnd
    exact hnd o (by simpa using ho)
  refine wpIn_region_any hm (quiet_any hnd' (C := fun w' => ∃ n, w' = w.drewN n) (Q := fun a' => ∀ w', (∃ n, w' = w.drewN n) → Q .normal a' w') (fun _ w' hw' h => h w' hw') _ _ _ _ ⟨1, rfl⟩ ?_)
  have := wpAnyQIn_lex (F := F) (n := n) (P := P) (ops := l.toArray) (C := fun w' => ∃ n, w' = w.drewN n) (md := .any) hB.1 l 0 (Array.replicate l.toArray.size false) a (by simp) (by simpa using hB.2) h
  simpa using this
end

theorem wide_fn (f : FuncId) : Fence.wide.fn f = True := rfl

theorem quiet_same {P : Program} {l0 : Nat} {n : Nat} {f : FuncId} {args : Array Value} {w : World} {k : Nat} {v : Value}
    (h : Calls P f args (w.drewN k) fun e w' => e = .returned v ∧ w.drewN k = w') : CallsIn (Fence.wide.inRound l0) n P f args (w.drewN k) fun e w'' => e = .returned v ∧ ∃ m, w'' = w.drewN m :=
  CallsIn.inRound l0 (callsIn_wide.2 (h.mono fun _ _ ⟨he, hm⟩ => ⟨he, k, hm.symm⟩))

end Go.Proofs.YticglepkbihldaaGreat

/-
  A region that draws its order, walked by hand: an operation is taken first, the activation written out.
-/
namespace Go.Proofs.YticglepkbihldaaGreat
open Go.RowKit

theorem take_at {F : Fence} {n : Nat} {P : Program} {ops : Array Oper} {Q : Exit → Act → World → Prop} {md : Region.Mode} (i d : Nat) {oi : Oper} (v : Value) {fuel : Nat} {listed : Array Bool} {ts : Array Value} {ds : List Deferred} {w : World}
    (hro : F.round = none) (hi : ops[i]? = some oi) (hd : oi.dst = some d)
    (hs : Region.noSelect ops = true) (hf : Region.free md ops listed i = true) (hr : (Region.ready md ops listed).contains i = true)
    (hQ : ∀ c (a : Act) w, Q (.panic c) (a.put oi.dst v) w → Q (.panic c) a w) (hy : YieldsFenced P ops oi v { tmps := ts, defers := ds })
    (h : wpAnyIn F n P md ops Q fuel (listed.setIfInBounds i true) { tmps := ts.setIfInBounds d v, defers := ds } w) : wpAnyIn F n P md ops Q (fuel + 1) listed { tmps := ts, defers := ds } w := by
  refine wpAnyIn_take hro hi hs hf hr hQ hy ?_
  rw [hd]
  exact h

end Go.Proofs.YticglepkbihldaaGreat

/-
  A tree's keys, rising, handed to a round each, as far as it wants them (keys string, values int).
-/
namespace Go.Proofs.YticglepkbihldaaGreat.oms
open Go.RowKit Go.Shelf
attribute [local go_sem] Oper.semAt_some wide_fn

/-- A pair, handed to a round. -/
abbrev prs (x : (List UInt8) × Int) : Array Value := #[(.string ⟨x.1.toArray⟩), (.int .i64 x.2)]
/-- What a tree has to tell: what is not ahead. -/
def Kept (ah : (List UInt8) → Bool) (x : Tr (List UInt8) Int) : List ((List UInt8) × Int) := x.flat.filter fun p => !ah p.1
/-- What is ahead stands ahead. -/
def Falls (ah : (List UInt8) → Bool) : Prop := ∀ a b, Op.bytesLess a b = true → ah b = true → ah a = true
theorem kept_ahead {ah : (List UInt8) → Bool} (hf : Falls ah) {l r : Tr (List UInt8) Int} {k : (List UInt8)} {v : Int} (hu : Up Op.bytesLess (Tr.node l k v r).flat) (hk : ah k = true) : Kept ah (.node l k v r) = Kept ah r := by
  obtain ⟨_, _, h3⟩ := up_parts hu
  unfold Kept
  rw [flat_node, List.filter_append, List.filter_cons, if_neg (by simp [hk])]
  have : l.flat.filter (fun p => !ah p.1) = [] := by
    rw [List.filter_eq_nil_iff]
    intro p hp
    simp [hf _ _ (h3 p hp) hk]
  rw [this, List.nil_append]
theorem kept_node {ah : (List UInt8) → Bool} {l r : Tr (List UInt8) Int} {k : (List UInt8)} {v : Int} (hk : ah k = false) : Kept ah (.node l k v r) = Kept ah l ++ (k, v) :: Kept ah r := by
  unfold Kept
  rw [flat_node, List.filter_append, List.filter_cons, if_pos (by simp [hk])]

/-- A tree that lay at W0, in a world behind rounds. -/
structure Base (S : Nat → Prop) (W0 : World) : Prop where
  far : ∀ g cs, Box W0 g 189 cs → ¬ S g
theorem Base.nd {S : Nat → Prop} {W0 W : World} (h : Base S W0) (ht : Turn S W0 W) {x : Tr (List UInt8) Int} {p : Value} (hx : Nd W0 x p) : Nd W x p := hx.turn ht h.far
theorem Base.one {S : Nat → Prop} {W0 W : World} (h : Base S W0) (ht : Turn S W0 W) {g : Nat} {k : (List UInt8)} {v : Int} {pl pr : Value} {n : Nat} (hx : One W0 g k v pl pr n) : One W g k v pl pr n := Box.turn hx ht (h.far g _ hx)

/-- Behind a tree that was told, or a round that wanted no more. -/
def Told (l : Nat) (S : Nat → Prop) (W0 W : World) (J Jx : List ((List UInt8) × Int) → World → Prop) (L : List ((List UInt8) × Int)) (e : Ending) (W' : World) : Prop :=
  (e = .returned (.bool true) ∧ J L W' ∧ Turn S W0 W' ∧ Still (l + 1) W W') ∨ (e = .returned (.bool false) ∧ (∃ q, q <+: L ∧ Jx q W') ∧ Still (l + 1) W W')

/-- What a round, and what says what is ahead, promise. -/
structure Rounds (l : Nat) (fa : Nat) (caps : Array Value) (ah : (List UInt8) → Bool) (S : Nat → Prop) (W0 : World) (J Jx : List ((List UInt8) × Int) → World → Prop) (T : List ((List UInt8) × Int)) : Prop where
  draws : ∀ pre W, J pre W → J pre W.drew
  enters : ∀ args w, (callFunc fa args).run Tryz.prog w = .ok (.enter fa args) w
  ahead : ∀ key W, Turn S W0 W → Calls Tryz.prog fa (#[(.string ⟨key.toArray⟩)] ++ caps) W fun e W' => e = .returned (.bool (ah key)) ∧ W = W'
  yield : ∀ pre x W, J pre W → Turn S W0 W → pre ++ [x] <+: T → YieldAt Fence.wide 0 Tryz.prog l (prs x) W fun e W' => (e = .returned (.bool true) ∧ J (pre ++ [x]) W' ∧ Turn S W W' ∧ Still (l + 1) W W') ∨ (e = .returned (.bool false) ∧ Jx (pre ++ [x]) W' ∧ Still (l + 1) W W')

set_option maxRecDepth 100000 in
set_option maxHeartbeats 2000000 in
theorem each_any (l fa : Nat) (caps : Array Value) (ah : (List UInt8) → Bool) (S : Nat → Prop) (W0 : World) (J Jx : List ((List UInt8) × Int) → World → Prop) (T : List ((List UInt8) × Int)) (hR : Rounds l fa caps ah S W0 J Jx T) (hB : Base S W0) (hfa : Falls ah) (x : Tr (List UInt8) Int) :
    ∀ (p : Value) (pre : List ((List UInt8) × Int)) (W : World), Nd W0 x p → Turn S W0 W → J pre W → Up Op.bytesLess x.flat → pre ++ Kept ah x <+: T →
    CallsIn Fence.wide 0 Tryz.prog 135 #[p, .func (.func fa) #[] caps, .func (.yield l) #[] #[]] W fun e W' => Told l S W0 W J Jx (pre ++ Kept ah x) e W' := by
  induction x with
  | nil =>
    intro p pre W hx ht hj _ _
    obtain rfl : p = .pointer none := hx
    refine callsIn_of_wp Tryz.func135 rfl trivial ?_ rfl
    simp only [Tryz.ntmps135, List.size_toArray, List.length_cons, List.length_nil, Nat.reduceAdd, Nat.reduceSub, Array.replicate_succ, Array.replicate_zero, List.push_toArray, List.append_toArray, List.nil_append, List.cons_append]
    gi_wp2
    go_ret
    exact .inl ⟨rfl, by show J (pre ++ []) W; rw [List.append_nil]; exact hj, ht, Still.refl _ _⟩
  | node tl k v tr ihl ihr =>
    intro p pre W hx ht hj hu hT
    obtain ⟨g, pl, pr, rfl, hg, hl, hr⟩ := nd_node hx
    have HG : Hid (∀ W, Turn S W0 W → One W g k v pl pr (tl.cnt + tr.cnt + 1)) := fun W ht => hB.one ht hg
    have HL := Lib.hid hl; have HR := Lib.hid hr; have HRR := Lib.hid hR; have HJ := Lib.hid hj; have HT := Lib.hid ht; have HPT := Lib.hid hT
    obtain ⟨hu1, hu2, _⟩ := up_parts hu
    obtain ⟨pl, rfl⟩ := hl.shape
    obtain ⟨pr, rfl⟩ := hr.shape
    obtain ⟨c0, c1, c2, c3, -⟩ := (HG.out W ht).cells
    have HA := Lib.hid (hR.ahead k W ht)
    have HE := hR.enters
    cases hk : ah k with
    | true =>
      rw [hk] at HA
      have HKE := Lib.hid (kept_ahead hfa hu hk)
      rw [HKE.out] at HPT ⊢
      have HI : Hid (∀ W, Turn S W0 W → J pre W → CallsIn Fence.wide 0 Tryz.prog 135 #[.pointer pr, .func (.func fa) #[] caps, .func (.yield l) #[] #[]] W fun e W' => Told l S W0 W J Jx (pre ++ Kept ah tr) e W') := fun W ht hj => ihr _ pre W HR.out ht hj hu2 HPT.out
      clear hk hu hu1 hu2 hx hg hl hr hR hj ht hT ihl ihr hB
      refine callsIn_of_wp Tryz.func135 rfl trivial ?_ rfl
      simp only [Tryz.ntmps135, List.size_toArray, List.length_cons, List.length_nil, Nat.reduceAdd, Nat.reduceSub, Array.replicate_succ, Array.replicate_zero, List.push_toArray, List.append_toArray, List.nil_append, List.cons_append]
      gi_wp2_with fail
      refine ⟨rfl, (callsIn_wide.2 HA.out).mono ?_⟩
      rintro e w' ⟨rfl, rfl⟩
      gi_wp2_with fail
      refine ⟨rfl, (HI.out W HT.out HJ.out).mono ?_⟩
      rintro e w' (⟨rfl, hh⟩ | ⟨rfl, hh⟩)
      · have HH := Lib.hid hh; clear hh
        gi_wp2
        go_ret
        exact .inl ⟨rfl, HH.out⟩
      · have HH := Lib.hid hh; clear hh
        gi_wp2
        go_ret
        exact .inr ⟨rfl, HH.out⟩
    | false =>
      rw [hk] at HA
      have HKE := Lib.hid (kept_node (l := tl) (r := tr) (v := v) hk)
      have HI : Hid (∀ W, Turn S W0 W → J pre W → CallsIn Fence.wide 0 Tryz.prog 135 #[.pointer pl, .func (.func fa) #[] caps, .func (.yield l) #[] #[]] W fun e W' => Told l S W0 W J Jx (pre ++ Kept ah tl) e W') :=
        fun W ht hj => ihl _ pre W HL.out ht hj hu1 ((List.prefix_append_right_inj pre).2 (by rw [HKE.out]; exact List.prefix_append _ _) |>.trans HPT.out)
      have HI2 : Hid (∀ W, Turn S W0 W → J (pre ++ Kept ah tl ++ [(k, v)]) W → CallsIn Fence.wide 0 Tryz.prog 135 #[.pointer pr, .func (.func fa) #[] caps, .func (.yield l) #[] #[]] W fun e W' => Told l S W0 W J Jx (pre ++ Kept ah (Tr.node tl k v tr)) e W') := fun W ht hj => by
        have h := ihr _ (pre ++ Kept ah tl ++ [(k, v)]) W HR.out ht hj hu2
        have e : pre ++ Kept ah tl ++ [(k, v)] ++ Kept ah tr = pre ++ Kept ah (Tr.node tl k v tr) := by rw [HKE.out]; simp
        rw [e] at h
        exact h HPT.out
      have HY : Hid (∀ W, Turn S W0 W → J (pre ++ Kept ah tl) W → YieldAt Fence.wide 0 Tryz.prog l #[(.string ⟨k.toArray⟩), (.int .i64 v)] W fun e W' => (e = .returned (.bool true) ∧ J (pre ++ Kept ah tl ++ [(k, v)]) W' ∧ Turn S W W' ∧ Still (l + 1) W W') ∨ (e = .returned (.bool false) ∧ Jx (pre ++ Kept ah tl ++ [(k, v)]) W' ∧ Still (l + 1) W W')) :=
        fun W ht hj => HRR.out.yield _ (k, v) W hj ht (List.IsPrefix.trans ⟨Kept ah tr, by rw [HKE.out]; simp⟩ HPT.out)
      clear hk hu hu1 hu2 hx hg hl hr hR hj ht hT ihl ihr hB
      refine callsIn_of_wp Tryz.func135 rfl trivial ?_ rfl
      simp only [Tryz.ntmps135, List.size_toArray, List.length_cons, List.length_nil, Nat.reduceAdd, Nat.reduceSub, Array.replicate_succ, Array.replicate_zero, List.push_toArray, List.append_toArray, List.nil_append, List.cons_append]
      gi_wp2_with fail
      refine ⟨rfl, (callsIn_wide.2 HA.out).mono ?_⟩
      rintro e w' ⟨rfl, rfl⟩
      gi_wp2_with fail
      obtain ⟨d0, d1, d2, d3, -⟩ := (HG.out _ HT.out.drew).cells
      refine wpIn_region_any (by kernel_rfl) ?_
      change wpAnyIn _ _ _ _ _ _ _ _ _ (World.drew _)
      refine take_at 0 22 (.pointer (some ⟨g, 0, none⟩)) rfl rfl rfl (by kernel_rfl) (by kernel_rfl) (by kernel_rfl) (fun _ _ _ h => h) ⟨Or.inl ⟨by rfl, by intro w; go_simp⟩, fun _ => rfl⟩ ?_
      simp only [List.setIfInBounds_toArray, List.set_cons_zero, List.set_cons_succ]
      refine take_at 1 23 (.pointer (some ⟨g, 0, none⟩)) rfl rfl rfl (by kernel_rfl) (by kernel_rfl) (by kernel_rfl) (fun _ _ _ h => h) ⟨Or.inl ⟨by rfl, by intro w; go_simp⟩, fun _ => rfl⟩ ?_
      simp only [List.setIfInBounds_toArray, List.set_cons_zero, List.set_cons_succ]
      refine take_at 2 24 (.pointer (some ⟨g, 2, none⟩)) rfl rfl rfl (by kernel_rfl) (by kernel_rfl) (by kernel_rfl) (fun _ _ _ h => h) ⟨Or.inl ⟨by rfl, by intro w; go_simp⟩, fun _ => rfl⟩ ?_
      simp only [List.setIfInBounds_toArray, List.set_cons_zero, List.set_cons_succ]
      refine take_at 4 26 (.func (.func fa) #[] caps) rfl rfl rfl (by kernel_rfl) (by kernel_rfl) (by kernel_rfl) (fun _ _ _ h => h) ⟨Or.inl ⟨by rfl, by intro w; go_simp⟩, fun _ => rfl⟩ ?_
      simp only [List.setIfInBounds_toArray, List.set_cons_zero, List.set_cons_succ]
      refine take_at 5 27 (.func (.yield l) #[] #[]) rfl rfl rfl (by kernel_rfl) (by kernel_rfl) (by kernel_rfl) (fun _ _ _ h => h) ⟨Or.inl ⟨by rfl, by intro w; go_simp⟩, fun _ => rfl⟩ ?_
      simp only [List.setIfInBounds_toArray, List.set_cons_zero, List.set_cons_succ]
      refine wpAnyIn_ready (rs := [3]) (by kernel_rfl) (by simp) (AllReadyIn.cons rfl (fun K hK => ?_) AllReadyIn.nil)
      go_simp
      refine hK _ _ ?_
      clear hK K
      refine wpAnyIn_ready (rs := [6]) (by kernel_rfl) (by simp) (AllReadyIn.cons rfl (fun K hK => ?_) AllReadyIn.nil)
      go_simp
      refine ⟨rfl, (HI.out _ HT.out.drew (HRR.out.draws _ _ HJ.out)).mono ?_⟩
      rintro e W1 (⟨rfl, hj1, ht1, hs1⟩ | ⟨rfl, hq1, hs1⟩)
      · have HS1 := Lib.hid hs1; have HT1 := Lib.hid ht1
        obtain ⟨e0, e1, e2, e3, -⟩ := (HG.out _ ht1).cells
        obtain ⟨fn, tm, asg, bo, hy, hrr⟩ := HY.out W1 ht1 hj1
        have HRO := Lib.hid hrr
        clear hj1 ht1 hs1 hrr d0 d1 d2 d3
        refine hK _ _ ?_
        clear hK K
        refine take_at 7 29 (.bool true) rfl rfl rfl (by kernel_rfl) (by kernel_rfl) (by kernel_rfl) (fun _ _ _ h => h) ⟨Or.inl ⟨by rfl, by intro w; go_simp⟩, fun _ => rfl⟩ ?_
        simp only [List.setIfInBounds_toArray, List.set_cons_zero, List.set_cons_succ]
        refine take_at 8 30 (.func (.yield l) #[] #[]) rfl rfl rfl (by kernel_rfl) (by kernel_rfl) (by kernel_rfl) (fun _ _ _ h => h) ⟨Or.inl ⟨by rfl, by intro w; go_simp⟩, fun _ => rfl⟩ ?_
        simp only [List.setIfInBounds_toArray, List.set_cons_zero, List.set_cons_succ]
        refine take_at 9 31 (.pointer (some ⟨g, 0, none⟩)) rfl rfl rfl (by kernel_rfl) (by kernel_rfl) (by kernel_rfl) (fun _ _ _ h => h) ⟨Or.inl ⟨by rfl, by intro w; go_simp⟩, fun _ => rfl⟩ ?_
        simp only [List.setIfInBounds_toArray, List.set_cons_zero, List.set_cons_succ]
        refine take_at 10 32 (.pointer (some ⟨g, 0, none⟩)) rfl rfl rfl (by kernel_rfl) (by kernel_rfl) (by kernel_rfl) (fun _ _ _ h => h) ⟨Or.inl ⟨by rfl, by intro w; go_simp⟩, fun _ => rfl⟩ ?_
        simp only [List.setIfInBounds_toArray, List.set_cons_zero, List.set_cons_succ]
        refine take_at 11 33 (.pointer (some ⟨g, 0, none⟩)) rfl rfl rfl (by kernel_rfl) (by kernel_rfl) (by kernel_rfl) (fun _ _ _ h => h) ⟨Or.inl ⟨by rfl, by intro w; go_simp⟩, fun _ => rfl⟩ ?_
        simp only [List.setIfInBounds_toArray, List.set_cons_zero, List.set_cons_succ]
        refine take_at 13 35 (.pointer (some ⟨g, 0, none⟩)) rfl rfl rfl (by kernel_rfl) (by kernel_rfl) (by kernel_rfl) (fun _ _ _ h => h) ⟨Or.inl ⟨by rfl, by intro w; go_simp⟩, fun _ => rfl⟩ ?_
        simp only [List.setIfInBounds_toArray, List.set_cons_zero, List.set_cons_succ]
        refine take_at 14 36 (.pointer (some ⟨g, 0, none⟩)) rfl rfl rfl (by kernel_rfl) (by kernel_rfl) (by kernel_rfl) (fun _ _ _ h => h) ⟨Or.inl ⟨by rfl, by intro w; go_simp⟩, fun _ => rfl⟩ ?_
        simp only [List.setIfInBounds_toArray, List.set_cons_zero, List.set_cons_succ]
        refine take_at 15 37 (.pointer (some ⟨g, 1, none⟩)) rfl rfl rfl (by kernel_rfl) (by kernel_rfl) (by kernel_rfl) (fun _ _ _ h => h) ⟨Or.inl ⟨by rfl, by intro w; go_simp⟩, fun _ => rfl⟩ ?_
        simp only [List.setIfInBounds_toArray, List.set_cons_zero, List.set_cons_succ]
        refine wpAnyIn_ready (rs := [12, 16]) (by kernel_rfl) (by simp) (AllReadyIn.cons rfl (fun K hK => ?_) (AllReadyIn.cons rfl (fun K hK => ?_) AllReadyIn.nil))
        · go_simp
          refine hK _ _ ?_
          clear hK K
          refine wpAnyIn_ready (rs := [16]) (by kernel_rfl) (by simp) (AllReadyIn.cons rfl (fun K hK => ?_) AllReadyIn.nil)
          go_simp
          refine hK _ _ ?_
          clear hK K
          refine wpAnyIn_ready (rs := [17]) (by kernel_rfl) (by simp) (AllReadyIn.cons rfl (fun K hK => ?_) AllReadyIn.nil)
          go_simp
          refine ⟨rfl, HRO.out.mono ?_⟩
          rintro e W2 (⟨rfl, hj2, ht2, hs2⟩ | ⟨rfl, hx2, hs2⟩)
          · have HS2 := Lib.hid hs2; have HT2 := Lib.hid (HT1.out.trans ht2 (fun _ _ s => s)); have HJ2 := Lib.hid hj2
            obtain ⟨f0, f1, f2, f3, -⟩ := (HG.out _ HT2.out).cells
            clear hs2 ht2 hj2 e0 e1 e2 e3
            refine hK _ _ ?_
            clear hK K
            refine take_at 18 40 (.bool true) rfl rfl rfl (by kernel_rfl) (by kernel_rfl) (by kernel_rfl) (fun _ _ _ h => h) ⟨Or.inl ⟨by rfl, by intro w; go_simp⟩, fun _ => rfl⟩ ?_
            simp only [List.setIfInBounds_toArray, List.set_cons_zero, List.set_cons_succ]
            refine take_at 19 41 (.bool true) rfl rfl rfl (by kernel_rfl) (by kernel_rfl) (by kernel_rfl) (fun _ _ _ h => h) ⟨Or.inl ⟨by rfl, by intro w; go_simp⟩, fun _ => rfl⟩ ?_
            simp only [List.setIfInBounds_toArray, List.set_cons_zero, List.set_cons_succ]
            refine take_at 20 42 (.pointer (some ⟨g, 0, none⟩)) rfl rfl rfl (by kernel_rfl) (by kernel_rfl) (by kernel_rfl) (fun _ _ _ h => h) ⟨Or.inl ⟨by rfl, by intro w; go_simp⟩, fun _ => rfl⟩ ?_
            simp only [List.setIfInBounds_toArray, List.set_cons_zero, List.set_cons_succ]
            refine take_at 21 43 (.pointer (some ⟨g, 0, none⟩)) rfl rfl rfl (by kernel_rfl) (by kernel_rfl) (by kernel_rfl) (fun _ _ _ h => h) ⟨Or.inl ⟨by rfl, by intro w; go_simp⟩, fun _ => rfl⟩ ?_
            simp only [List.setIfInBounds_toArray, List.set_cons_zero, List.set_cons_succ]
            refine take_at 22 44 (.pointer (some ⟨g, 3, none⟩)) rfl rfl rfl (by kernel_rfl) (by kernel_rfl) (by kernel_rfl) (fun _ _ _ h => h) ⟨Or.inl ⟨by rfl, by intro w; go_simp⟩, fun _ => rfl⟩ ?_
            simp only [List.setIfInBounds_toArray, List.set_cons_zero, List.set_cons_succ]
            refine take_at 24 46 (.func (.func fa) #[] caps) rfl rfl rfl (by kernel_rfl) (by kernel_rfl) (by kernel_rfl) (fun _ _ _ h => h) ⟨Or.inl ⟨by rfl, by intro w; go_simp⟩, fun _ => rfl⟩ ?_
            simp only [List.setIfInBounds_toArray, List.set_cons_zero, List.set_cons_succ]
            refine take_at 25 47 (.func (.yield l) #[] #[]) rfl rfl rfl (by kernel_rfl) (by kernel_rfl) (by kernel_rfl) (fun _ _ _ h => h) ⟨Or.inl ⟨by rfl, by intro w; go_simp⟩, fun _ => rfl⟩ ?_
            simp only [List.setIfInBounds_toArray, List.set_cons_zero, List.set_cons_succ]
            refine wpAnyIn_ready (rs := [23]) (by kernel_rfl) (by simp) (AllReadyIn.cons rfl (fun K hK => ?_) AllReadyIn.nil)
            go_simp
            refine hK _ _ ?_
            clear hK K
            refine wpAnyIn_ready (rs := [26]) (by kernel_rfl) (by simp) (AllReadyIn.cons rfl (fun K hK => ?_) AllReadyIn.nil)
            go_simp
            refine ⟨rfl, (HI2.out W2 HT2.out HJ2.out).mono ?_⟩
            rintro e W3 (⟨rfl, hj3, ht3, hs3⟩ | ⟨rfl, hq3, hs3⟩)
            · have HS3 := Lib.hid hs3; have HT3 := Lib.hid ht3; have HJ3 := Lib.hid hj3
              clear hs3 ht3 hj3
              refine hK _ _ ?_
              clear hK K
              refine take_at 27 49 (.bool true) rfl rfl rfl (by kernel_rfl) (by kernel_rfl) (by kernel_rfl) (fun _ _ _ h => h) ⟨Or.inl ⟨by rfl, by intro w; go_simp⟩, fun _ => rfl⟩ ?_
              simp only [List.setIfInBounds_toArray, List.set_cons_zero, List.set_cons_succ]
              refine take_at 28 6 (.bool true) rfl rfl rfl (by kernel_rfl) (by kernel_rfl) (by kernel_rfl) (fun _ _ _ h => h) ⟨Or.inl ⟨by rfl, by intro w; go_simp⟩, fun _ => rfl⟩ ?_
              simp only [List.setIfInBounds_toArray, List.set_cons_zero, List.set_cons_succ]
              refine wpAnyIn_done (by kernel_rfl) ?_ _
              gi_wp2
              go_ret
              exact .inl ⟨rfl, HJ3.out, HT3.out, (Still.turned (Turn.refl _ W).drew).trans (HS1.out.trans (HS2.out.trans HS3.out))⟩
            · have HS3 := Lib.hid hs3; have HQ3 := Lib.hid hq3
              clear hs3 hq3
              refine hK _ _ ?_
              clear hK K
              refine take_at 27 49 (.bool false) rfl rfl rfl (by kernel_rfl) (by kernel_rfl) (by kernel_rfl) (fun _ _ _ h => h) ⟨Or.inl ⟨by rfl, by intro w; go_simp⟩, fun _ => rfl⟩ ?_
              simp only [List.setIfInBounds_toArray, List.set_cons_zero, List.set_cons_succ]
              refine take_at 28 6 (.bool false) rfl rfl rfl (by kernel_rfl) (by kernel_rfl) (by kernel_rfl) (fun _ _ _ h => h) ⟨Or.inl ⟨by rfl, by intro w; go_simp⟩, fun _ => rfl⟩ ?_
              simp only [List.setIfInBounds_toArray, List.set_cons_zero, List.set_cons_succ]
              refine wpAnyIn_done (by kernel_rfl) ?_ _
              gi_wp2
              go_ret
              exact .inr ⟨rfl, HQ3.out, (Still.turned (Turn.refl _ W).drew).trans (HS1.out.trans (HS2.out.trans HS3.out))⟩
          · have HS2 := Lib.hid hs2; have HX2 := Lib.hid hx2
            clear hs2 hx2
            refine hK _ _ ?_
            clear hK K
            refine take_at 18 40 (.bool false) rfl rfl rfl (by kernel_rfl) (by kernel_rfl) (by kernel_rfl) (fun _ _ _ h => h) ⟨Or.inl ⟨by rfl, by intro w; go_simp⟩, fun _ => rfl⟩ ?_
            simp only [List.setIfInBounds_toArray, List.set_cons_zero, List.set_cons_succ]
            refine take_at 19 41 (.bool false) rfl rfl rfl (by kernel_rfl) (by kernel_rfl) (by kernel_rfl) (fun _ _ _ h => h) ⟨Or.inl ⟨by rfl, by intro w; go_simp⟩, fun _ => rfl⟩ ?_
            simp only [List.setIfInBounds_toArray, List.set_cons_zero, List.set_cons_succ]
            refine take_at 20 42 undef rfl rfl rfl (by kernel_rfl) (by kernel_rfl) (by kernel_rfl) (fun _ _ _ h => h) ⟨Or.inr ⟨by rfl, rfl⟩, fun _ => rfl⟩ ?_
            simp only [List.setIfInBounds_toArray, List.set_cons_zero, List.set_cons_succ]
            refine take_at 21 43 undef rfl rfl rfl (by kernel_rfl) (by kernel_rfl) (by kernel_rfl) (fun _ _ _ h => h) ⟨Or.inr ⟨by rfl, rfl⟩, fun _ => rfl⟩ ?_
            simp only [List.setIfInBounds_toArray, List.set_cons_zero, List.set_cons_succ]
            refine take_at 22 44 undef rfl rfl rfl (by kernel_rfl) (by kernel_rfl) (by kernel_rfl) (fun _ _ _ h => h) ⟨Or.inr ⟨by rfl, rfl⟩, fun _ => rfl⟩ ?_
            simp only [List.setIfInBounds_toArray, List.set_cons_zero, List.set_cons_succ]
            refine take_at 23 45 undef rfl rfl rfl (by kernel_rfl) (by kernel_rfl) (by kernel_rfl) (fun _ _ _ h => h) ⟨Or.inr ⟨by rfl, rfl⟩, fun _ => rfl⟩ ?_
            simp only [List.setIfInBounds_toArray, List.set_cons_zero, List.set_cons_succ]
            refine take_at 24 46 undef rfl rfl rfl (by kernel_rfl) (by kernel_rfl) (by kernel_rfl) (fun _ _ _ h => h) ⟨Or.inr ⟨by rfl, rfl⟩, fun _ => rfl⟩ ?_
            simp only [List.setIfInBounds_toArray, List.set_cons_zero, List.set_cons_succ]
            refine take_at 25 47 undef rfl rfl rfl (by kernel_rfl) (by kernel_rfl) (by kernel_rfl) (fun _ _ _ h => h) ⟨Or.inr ⟨by rfl, rfl⟩, fun _ => rfl⟩ ?_
            simp only [List.setIfInBounds_toArray, List.set_cons_zero, List.set_cons_succ]
            refine wpAnyIn_ready (rs := [26]) (by kernel_rfl) (by simp) (AllReadyIn.cons rfl (fun K hK => ?_) AllReadyIn.nil)
            rw [if_neg (by simp [Region.wanted, yielded])]
            refine ⟨fun f hf => trivial, ?_⟩
            refine hK _ _ ?_
            clear hK K
            refine take_at 27 49 (.bool false) rfl rfl rfl (by kernel_rfl) (by kernel_rfl) (by kernel_rfl) (fun _ _ _ h => h) ⟨Or.inl ⟨by rfl, by intro w; go_simp⟩, fun _ => rfl⟩ ?_
            simp only [List.setIfInBounds_toArray, List.set_cons_zero, List.set_cons_succ]
            refine take_at 28 6 (.bool false) rfl rfl rfl (by kernel_rfl) (by kernel_rfl) (by kernel_rfl) (fun _ _ _ h => h) ⟨Or.inl ⟨by rfl, by intro w; go_simp⟩, fun _ => rfl⟩ ?_
            simp only [List.setIfInBounds_toArray, List.set_cons_zero, List.set_cons_succ]
            refine wpAnyIn_done (by kernel_rfl) ?_ _
            gi_wp2
            go_ret
            exact .inr ⟨rfl, ⟨_, by rw [HKE.out]; exact ⟨Kept ah tr, by simp⟩, HX2.out⟩, (Still.turned (Turn.refl _ W).drew).trans (HS1.out.trans HS2.out)⟩
        · go_simp
          refine hK _ _ ?_
          clear hK K
          refine wpAnyIn_ready (rs := [12]) (by kernel_rfl) (by simp) (AllReadyIn.cons rfl (fun K hK => ?_) AllReadyIn.nil)
          go_simp
          refine hK _ _ ?_
          clear hK K
          refine wpAnyIn_ready (rs := [17]) (by kernel_rfl) (by simp) (AllReadyIn.cons rfl (fun K hK => ?_) AllReadyIn.nil)
          go_simp
          refine ⟨rfl, HRO.out.mono ?_⟩
          rintro e W2 (⟨rfl, hj2, ht2, hs2⟩ | ⟨rfl, hx2, hs2⟩)
          · have HS2 := Lib.hid hs2; have HT2 := Lib.hid (HT1.out.trans ht2 (fun _ _ s => s)); have HJ2 := Lib.hid hj2
            obtain ⟨f0, f1, f2, f3, -⟩ := (HG.out _ HT2.out).cells
            clear hs2 ht2 hj2 e0 e1 e2 e3
            refine hK _ _ ?_
            clear hK K
            refine take_at 18 40 (.bool true) rfl rfl rfl (by kernel_rfl) (by kernel_rfl) (by kernel_rfl) (fun _ _ _ h => h) ⟨Or.inl ⟨by rfl, by intro w; go_simp⟩, fun _ => rfl⟩ ?_
            simp only [List.setIfInBounds_toArray, List.set_cons_zero, List.set_cons_succ]
            refine take_at 19 41 (.bool true) rfl rfl rfl (by kernel_rfl) (by kernel_rfl) (by kernel_rfl) (fun _ _ _ h => h) ⟨Or.inl ⟨by rfl, by intro w; go_simp⟩, fun _ => rfl⟩ ?_
            simp only [List.setIfInBounds_toArray, List.set_cons_zero, List.set_cons_succ]
            refine take_at 20 42 (.pointer (some ⟨g, 0, none⟩)) rfl rfl rfl (by kernel_rfl) (by kernel_rfl) (by kernel_rfl) (fun _ _ _ h => h) ⟨Or.inl ⟨by rfl, by intro w; go_simp⟩, fun _ => rfl⟩ ?_
            simp only [List.setIfInBounds_toArray, List.set_cons_zero, List.set_cons_succ]
            refine take_at 21 43 (.pointer (some ⟨g, 0, none⟩)) rfl rfl rfl (by kernel_rfl) (by kernel_rfl) (by kernel_rfl) (fun _ _ _ h => h) ⟨Or.inl ⟨by rfl, by intro w; go_simp⟩, fun _ => rfl⟩ ?_
            simp only [List.setIfInBounds_toArray, List.set_cons_zero, List.set_cons_succ]
            refine take_at 22 44 (.pointer (some ⟨g, 3, none⟩)) rfl rfl rfl (by kernel_rfl) (by kernel_rfl) (by kernel_rfl) (fun _ _ _ h => h) ⟨Or.inl ⟨by rfl, by intro w; go_simp⟩, fun _ => rfl⟩ ?_
            simp only [List.setIfInBounds_toArray, List.set_cons_zero, List.set_cons_succ]
            refine take_at 24 46 (.func (.func fa) #[] caps) rfl rfl rfl (by kernel_rfl) (by kernel_rfl) (by kernel_rfl) (fun _ _ _ h => h) ⟨Or.inl ⟨by rfl, by intro w; go_simp⟩, fun _ => rfl⟩ ?_
            simp only [List.setIfInBounds_toArray, List.set_cons_zero, List.set_cons_succ]
            refine take_at 25 47 (.func (.yield l) #[] #[]) rfl rfl rfl (by kernel_rfl) (by kernel_rfl) (by kernel_rfl) (fun _ _ _ h => h) ⟨Or.inl ⟨by rfl, by intro w; go_simp⟩, fun _ => rfl⟩ ?_
            simp only [List.setIfInBounds_toArray, List.set_cons_zero, List.set_cons_succ]
            refine wpAnyIn_ready (rs := [23]) (by kernel_rfl) (by simp) (AllReadyIn.cons rfl (fun K hK => ?_) AllReadyIn.nil)
            go_simp
            refine hK _ _ ?_
            clear hK K
            refine wpAnyIn_ready (rs := [26]) (by kernel_rfl) (by simp) (AllReadyIn.cons rfl (fun K hK => ?_) AllReadyIn.nil)
            go_simp
            refine ⟨rfl, (HI2.out W2 HT2.out HJ2.out).mono ?_⟩
            rintro e W3 (⟨rfl, hj3, ht3, hs3⟩ | ⟨rfl, hq3, hs3⟩)
            · have HS3 := Lib.hid hs3; have HT3 := Lib.hid ht3; have HJ3 := Lib.hid hj3
              clear hs3 ht3 hj3
              refine hK _ _ ?_
              clear hK K
              refine take_at 27 49 (.bool true) rfl rfl rfl (by kernel_rfl) (by kernel_rfl) (by kernel_rfl) (fun _ _ _ h => h) ⟨Or.inl ⟨by rfl, by intro w; go_simp⟩, fun _ => rfl⟩ ?_
              simp only [List.setIfInBounds_toArray, List.set_cons_zero, List.set_cons_succ]
              refine take_at 28 6 (.bool true) rfl rfl rfl (by kernel_rfl) (by kernel_rfl) (by kernel_rfl) (fun _ _ _ h => h) ⟨Or.inl ⟨by rfl, by intro w; go_simp⟩, fun _ => rfl⟩ ?_
              simp only [List.setIfInBounds_toArray, List.set_cons_zero, List.set_cons_succ]
              refine wpAnyIn_done (by kernel_rfl) ?_ _
              gi_wp2
              go_ret
              exact .inl ⟨rfl, HJ3.out, HT3.out, (Still.turned (Turn.refl _ W).drew).trans (HS1.out.trans (HS2.out.trans HS3.out))⟩
            · have HS3 := Lib.hid hs3; have HQ3 := Lib.hid hq3
              clear hs3 hq3
              refine hK _ _ ?_
              clear hK K
              refine take_at 27 49 (.bool false) rfl rfl rfl (by kernel_rfl) (by kernel_rfl) (by kernel_rfl) (fun _ _ _ h => h) ⟨Or.inl ⟨by rfl, by intro w; go_simp⟩, fun _ => rfl⟩ ?_
              simp only [List.setIfInBounds_toArray, List.set_cons_zero, List.set_cons_succ]
              refine take_at 28 6 (.bool false) rfl rfl rfl (by kernel_rfl) (by kernel_rfl) (by kernel_rfl) (fun _ _ _ h => h) ⟨Or.inl ⟨by rfl, by intro w; go_simp⟩, fun _ => rfl⟩ ?_
              simp only [List.setIfInBounds_toArray, List.set_cons_zero, List.set_cons_succ]
              refine wpAnyIn_done (by kernel_rfl) ?_ _
              gi_wp2
              go_ret
              exact .inr ⟨rfl, HQ3.out, (Still.turned (Turn.refl _ W).drew).trans (HS1.out.trans (HS2.out.trans HS3.out))⟩
          · have HS2 := Lib.hid hs2; have HX2 := Lib.hid hx2
            clear hs2 hx2
            refine hK _ _ ?_
            clear hK K
            refine take_at 18 40 (.bool false) rfl rfl rfl (by kernel_rfl) (by kernel_rfl) (by kernel_rfl) (fun _ _ _ h => h) ⟨Or.inl ⟨by rfl, by intro w; go_simp⟩, fun _ => rfl⟩ ?_
            simp only [List.setIfInBounds_toArray, List.set_cons_zero, List.set_cons_succ]
            refine take_at 19 41 (.bool false) rfl rfl rfl (by kernel_rfl) (by kernel_rfl) (by kernel_rfl) (fun _ _ _ h => h) ⟨Or.inl ⟨by rfl, by intro w; go_simp⟩, fun _ => rfl⟩ ?_
            simp only [List.setIfInBounds_toArray, List.set_cons_zero, List.set_cons_succ]
            refine take_at 20 42 undef rfl rfl rfl (by kernel_rfl) (by kernel_rfl) (by kernel_rfl) (fun _ _ _ h => h) ⟨Or.inr ⟨by rfl, rfl⟩, fun _ => rfl⟩ ?_
            simp only [List.setIfInBounds_toArray, List.set_cons_zero, List.set_cons_succ]
            refine take_at 21 43 undef rfl rfl rfl (by kernel_rfl) (by kernel_rfl) (by kernel_rfl) (fun _ _ _ h => h) ⟨Or.inr ⟨by rfl, rfl⟩, fun _ => rfl⟩ ?_
            simp only [List.setIfInBounds_toArray, List.set_cons_zero, List.set_cons_succ]
            refine take_at 22 44 undef rfl rfl rfl (by kernel_rfl) (by kernel_rfl) (by kernel_rfl) (fun _ _ _ h => h) ⟨Or.inr ⟨by rfl, rfl⟩, fun _ => rfl⟩ ?_
            simp only [List.setIfInBounds_toArray, List.set_cons_zero, List.set_cons_succ]
            refine take_at 23 45 undef rfl rfl rfl (by kernel_rfl) (by kernel_rfl) (by kernel_rfl) (fun _ _ _ h => h) ⟨Or.inr ⟨by rfl, rfl⟩, fun _ => rfl⟩ ?_
            simp only [List.setIfInBounds_toArray, List.set_cons_zero, List.set_cons_succ]
            refine take_at 24 46 undef rfl rfl rfl (by kernel_rfl) (by kernel_rfl) (by kernel_rfl) (fun _ _ _ h => h) ⟨Or.inr ⟨by rfl, rfl⟩, fun _ => rfl⟩ ?_
            simp only [List.setIfInBounds_toArray, List.set_cons_zero, List.set_cons_succ]
            refine take_at 25 47 undef rfl rfl rfl (by kernel_rfl) (by kernel_rfl) (by kernel_rfl) (fun _ _ _ h => h) ⟨Or.inr ⟨by rfl, rfl⟩, fun _ => rfl⟩ ?_
            simp only [List.setIfInBounds_toArray, List.set_cons_zero, List.set_cons_succ]
            refine wpAnyIn_ready (rs := [26]) (by kernel_rfl) (by simp) (AllReadyIn.cons rfl (fun K hK => ?_) AllReadyIn.nil)
            rw [if_neg (by simp [Region.wanted, yielded])]
            refine ⟨fun f hf => trivial, ?_⟩
            refine hK _ _ ?_
            clear hK K
            refine take_at 27 49 (.bool false) rfl rfl rfl (by kernel_rfl) (by kernel_rfl) (by kernel_rfl) (fun _ _ _ h => h) ⟨Or.inl ⟨by rfl, by intro w; go_simp⟩, fun _ => rfl⟩ ?_
            simp only [List.setIfInBounds_toArray, List.set_cons_zero, List.set_cons_succ]
            refine take_at 28 6 (.bool false) rfl rfl rfl (by kernel_rfl) (by kernel_rfl) (by kernel_rfl) (fun _ _ _ h => h) ⟨Or.inl ⟨by rfl, by intro w; go_simp⟩, fun _ => rfl⟩ ?_
            simp only [List.setIfInBounds_toArray, List.set_cons_zero, List.set_cons_succ]
            refine wpAnyIn_done (by kernel_rfl) ?_ _
            gi_wp2
            go_ret
            exact .inr ⟨rfl, ⟨_, by rw [HKE.out]; exact ⟨Kept ah tr, by simp⟩, HX2.out⟩, (Still.turned (Turn.refl _ W).drew).trans (HS1.out.trans HS2.out)⟩
      · have HS1 := Lib.hid hs1; have HQ1 := Lib.hid hq1
        clear hs1 hq1 d0 d1 d2 d3
        refine hK _ _ ?_
        clear hK K
        refine take_at 7 29 (.bool false) rfl rfl rfl (by kernel_rfl) (by kernel_rfl) (by kernel_rfl) (fun _ _ _ h => h) ⟨Or.inl ⟨by rfl, by intro w; go_simp⟩, fun _ => rfl⟩ ?_
        simp only [List.setIfInBounds_toArray, List.set_cons_zero, List.set_cons_succ]
        refine take_at 8 30 undef rfl rfl rfl (by kernel_rfl) (by kernel_rfl) (by kernel_rfl) (fun _ _ _ h => h) ⟨Or.inr ⟨by rfl, rfl⟩, fun _ => rfl⟩ ?_
        simp only [List.setIfInBounds_toArray, List.set_cons_zero, List.set_cons_succ]
        refine take_at 9 31 undef rfl rfl rfl (by kernel_rfl) (by kernel_rfl) (by kernel_rfl) (fun _ _ _ h => h) ⟨Or.inr ⟨by rfl, rfl⟩, fun _ => rfl⟩ ?_
        simp only [List.setIfInBounds_toArray, List.set_cons_zero, List.set_cons_succ]
        refine take_at 10 32 undef rfl rfl rfl (by kernel_rfl) (by kernel_rfl) (by kernel_rfl) (fun _ _ _ h => h) ⟨Or.inr ⟨by rfl, rfl⟩, fun _ => rfl⟩ ?_
        simp only [List.setIfInBounds_toArray, List.set_cons_zero, List.set_cons_succ]
        refine take_at 11 33 undef rfl rfl rfl (by kernel_rfl) (by kernel_rfl) (by kernel_rfl) (fun _ _ _ h => h) ⟨Or.inr ⟨by rfl, rfl⟩, fun _ => rfl⟩ ?_
        simp only [List.setIfInBounds_toArray, List.set_cons_zero, List.set_cons_succ]
        refine take_at 12 34 undef rfl rfl rfl (by kernel_rfl) (by kernel_rfl) (by kernel_rfl) (fun _ _ _ h => h) ⟨Or.inr ⟨by rfl, rfl⟩, fun _ => rfl⟩ ?_
        simp only [List.setIfInBounds_toArray, List.set_cons_zero, List.set_cons_succ]
        refine take_at 13 35 undef rfl rfl rfl (by kernel_rfl) (by kernel_rfl) (by kernel_rfl) (fun _ _ _ h => h) ⟨Or.inr ⟨by rfl, rfl⟩, fun _ => rfl⟩ ?_
        simp only [List.setIfInBounds_toArray, List.set_cons_zero, List.set_cons_succ]
        refine take_at 14 36 undef rfl rfl rfl (by kernel_rfl) (by kernel_rfl) (by kernel_rfl) (fun _ _ _ h => h) ⟨Or.inr ⟨by rfl, rfl⟩, fun _ => rfl⟩ ?_
        simp only [List.setIfInBounds_toArray, List.set_cons_zero, List.set_cons_succ]
        refine take_at 15 37 undef rfl rfl rfl (by kernel_rfl) (by kernel_rfl) (by kernel_rfl) (fun _ _ _ h => h) ⟨Or.inr ⟨by rfl, rfl⟩, fun _ => rfl⟩ ?_
        simp only [List.setIfInBounds_toArray, List.set_cons_zero, List.set_cons_succ]
        refine take_at 16 38 undef rfl rfl rfl (by kernel_rfl) (by kernel_rfl) (by kernel_rfl) (fun _ _ _ h => h) ⟨Or.inr ⟨by rfl, rfl⟩, fun _ => rfl⟩ ?_
        simp only [List.setIfInBounds_toArray, List.set_cons_zero, List.set_cons_succ]
        refine wpAnyIn_ready (rs := [17]) (by kernel_rfl) (by simp) (AllReadyIn.cons rfl (fun K hK => ?_) AllReadyIn.nil)
        rw [if_neg (by simp [Region.wanted, yielded])]
        refine ⟨fun f hf => trivial, ?_⟩
        refine hK _ _ ?_
        clear hK K
        refine take_at 18 40 (.bool false) rfl rfl rfl (by kernel_rfl) (by kernel_rfl) (by kernel_rfl) (fun _ _ _ h => h) ⟨Or.inl ⟨by rfl, by intro w; go_simp⟩, fun _ => rfl⟩ ?_
        simp only [List.setIfInBounds_toArray, List.set_cons_zero, List.set_cons_succ]
        refine take_at 19 41 (.bool false) rfl rfl rfl (by kernel_rfl) (by kernel_rfl) (by kernel_rfl) (fun _ _ _ h => h) ⟨Or.inl ⟨by rfl, by intro w; go_simp⟩, fun _ => rfl⟩ ?_
        simp only [List.setIfInBounds_toArray, List.set_cons_zero, List.set_cons_succ]
        refine take_at 20 42 undef rfl rfl rfl (by kernel_rfl) (by kernel_rfl) (by kernel_rfl) (fun _ _ _ h => h) ⟨Or.inr ⟨by rfl, rfl⟩, fun _ => rfl⟩ ?_
        simp only [List.setIfInBounds_toArray, List.set_cons_zero, List.set_cons_succ]
        refine take_at 21 43 undef rfl rfl rfl (by kernel_rfl) (by kernel_rfl) (by kernel_rfl) (fun _ _ _ h => h) ⟨Or.inr ⟨by rfl, rfl⟩, fun _ => rfl⟩ ?_
        simp only [List.setIfInBounds_toArray, List.set_cons_zero, List.set_cons_succ]
        refine take_at 22 44 undef rfl rfl rfl (by kernel_rfl) (by kernel_rfl) (by kernel_rfl) (fun _ _ _ h => h) ⟨Or.inr ⟨by rfl, rfl⟩, fun _ => rfl⟩ ?_
        simp only [List.setIfInBounds_toArray, List.set_cons_zero, List.set_cons_succ]
        refine take_at 23 45 undef rfl rfl rfl (by kernel_rfl) (by kernel_rfl) (by kernel_rfl) (fun _ _ _ h => h) ⟨Or.inr ⟨by rfl, rfl⟩, fun _ => rfl⟩ ?_
        simp only [List.setIfInBounds_toArray, List.set_cons_zero, List.set_cons_succ]
        refine take_at 24 46 undef rfl rfl rfl (by kernel_rfl) (by kernel_rfl) (by kernel_rfl) (fun _ _ _ h => h) ⟨Or.inr ⟨by rfl, rfl⟩, fun _ => rfl⟩ ?_
        simp only [List.setIfInBounds_toArray, List.set_cons_zero, List.set_cons_succ]
        refine take_at 25 47 undef rfl rfl rfl (by kernel_rfl) (by kernel_rfl) (by kernel_rfl) (fun _ _ _ h => h) ⟨Or.inr ⟨by rfl, rfl⟩, fun _ => rfl⟩ ?_
        simp only [List.setIfInBounds_toArray, List.set_cons_zero, List.set_cons_succ]
        refine wpAnyIn_ready (rs := [26]) (by kernel_rfl) (by simp) (AllReadyIn.cons rfl (fun K hK => ?_) AllReadyIn.nil)
        rw [if_neg (by simp [Region.wanted, yielded])]
        refine ⟨fun f hf => trivial, ?_⟩
        refine hK _ _ ?_
        clear hK K
        refine take_at 27 49 (.bool false) rfl rfl rfl (by kernel_rfl) (by kernel_rfl) (by kernel_rfl) (fun _ _ _ h => h) ⟨Or.inl ⟨by rfl, by intro w; go_simp⟩, fun _ => rfl⟩ ?_
        simp only [List.setIfInBounds_toArray, List.set_cons_zero, List.set_cons_succ]
        refine take_at 28 6 (.bool false) rfl rfl rfl (by kernel_rfl) (by kernel_rfl) (by kernel_rfl) (fun _ _ _ h => h) ⟨Or.inl ⟨by rfl, by intro w; go_simp⟩, fun _ => rfl⟩ ?_
        simp only [List.setIfInBounds_toArray, List.set_cons_zero, List.set_cons_succ]
        refine wpAnyIn_done (by kernel_rfl) ?_ _
        gi_wp2
        go_ret
        obtain ⟨q, hq, hx⟩ := HQ1.out
        exact .inr ⟨rfl, ⟨q, hq.trans (by rw [HKE.out]; exact ⟨(k, v) :: Kept ah tr, by simp⟩), hx⟩, (Still.turned (Turn.refl _ W).drew).trans HS1.out⟩

end Go.Proofs.YticglepkbihldaaGreat.oms
