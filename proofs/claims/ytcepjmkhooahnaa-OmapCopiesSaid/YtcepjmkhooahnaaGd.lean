
/-
  The document's map of numbers and texts: Drop.
-/
import Derived.Test.YtcepjmkhooahnaaGc
import Derived.Deep.RegionLaw
namespace Go.Proofs.Ytcepjmkhooahnaa
open Go.RowKit

theorem step_pairs (w : World) {ops : Array Oper} {o : Oper} {a : Act} {K : Act → World → Prop} {Q : Exit → Act → World → Prop} {F : Prop} (hgd : o.guard = none) (s x : Operand)
    (ho : o.op = .call { callee := .builtin .append, args := #[s, x], argTypes := #[27, 27] }) (v : Value) (l : List (Int × List UInt8)) (hs : a.eval s = v) (hown : OwE EP 42 w v l)
    (y : Value) (hx : a.eval x = y) (m : List (Int × List UInt8)) (hy : RdE EP w y m) (hl : l.length + m.length ≤ 3000000)
    (h : ∀ A n c w', OwE EP 42 w' (.slice A n c) (l ++ m) → Turn (fun k => v.ownBlock = some k) w w' → ((Value.slice A n c).ownBlock = v.ownBlock ∨ (Value.slice A n c).ownBlock = some w.heap.size) → K (a.put o.dst (.slice A n c)) w') :
    if Region.wanted o (yielded ops a.tmps) = true then Oper.wp Try.prog o a w K Q else F :=
  step_appE Try.underlying27 pair_info2 pair_zero w hgd s x _ ho v l hs hown y hx m (hy.src Try.underlying27) (by simp only [maxLen]; omega) (by omega) h
theorem New.empty (w : World) (n : Nat) : New w ((w.drewN n).alloc (.cells #[] 42)) (.slice (some ⟨w.heap.size, 0, none⟩) 0 0) [] :=
  ⟨OwE.made (E := EP) (w.drewN n) [] (Nat.zero_le _), (fun k e => Nat.le_of_eq (by simpa [Value.ownBlock] using e)), ((Turn.refl _ w).drewN n).alloc _⟩
theorem obj_keep {w : World} {g : Nat} {sv : Value} {L : List (Int × List UInt8)} (h : RM w g sv L) (w' : World) (ht : Turn (fun _ => False) w w') : w'.cell? ⟨g, 0, none⟩ = some sv ∧ Turn (fun _ => False) w w' :=
  ⟨(h.obj.turn ht (fun f => f)).cell 0, ht⟩

theorem drop_post {w w3 : World} {g P : Nat} {sv v : Value} {L : List (Int × List UInt8)} (h : RM w g sv L) (hn : New w w3 v ([] ++ L.take P ++ L.drop (P + 1))) :
    ∃ sv', RM (w3.setCell ⟨g, 0, none⟩ v) g sv' (L.take P ++ L.drop (P + 1)) ∧ Turn (fun j => j = g) w (w3.setCell ⟨g, 0, none⟩ v) ∧ ∀ j, sv'.ownBlock = some j → w.heap.size ≤ j ∨ sv.ownBlock = some j := by
  obtain ⟨sv', h1, h2, h3⟩ := rm_post h hn
  rw [List.nil_append] at h1
  exact ⟨sv', h1, h2, fun j hj => .inl (h3 j hj)⟩

set_option maxRecDepth 100000 in
set_option maxHeartbeats 4000000 in
theorem ref_drop6 (g : Nat) (sv : Value) (L : List (Int × List UInt8)) (k : Int) (w : World) (hm : RM w g sv L) (hl : L.length ≤ 1000000) :
    Calls Try.prog 27 #[.pointer (some ⟨g, 0, none⟩), .int .i64 k] w fun e w' => e = .returned (.bool (hasK ltI L k)) ∧ ∃ sv', RM w' g sv' (dropK ltI L k) ∧ Turn (fun j => j = g) w w' ∧ ∀ j, sv'.ownBlock = some j → w.heap.size ≤ j ∨ sv.ownBlock = some j := by
  have HM := Lib.hid hm
  obtain ⟨A, c, rfl⟩ := hm.row.shape
  have HP := Lib.hid (ref_place g _ L k w hm hl)
  cases hh : hasK ltI L k with
  | false =>
    rw [drop_not hh]
    rw [hh] at HP
    clear hm
    go_enter Try.func27, Try.ntmps27
    go_wp2_with (go_at_call 46; refine HP.out.mono ?_; rintro e w' ⟨rfl, n, rfl⟩)
    go_ret
    exact ⟨rfl, _, HM.out.later ((Turn.refl _ w).drewN _), (Turn.refl _ w).drewN _, fun j hj => .inr hj⟩
  | true =>
    have hle := plc_le (lt := ltI) L k
    have hU := upK_le (lt := ltI) L k
    have hdrop : dropK ltI L k = L.take (plc ltI L k) ++ L.drop (plc ltI L k + 1) := by unfold dropK upK; rw [hh]; rfl
    have hU2 : plc ltI L k + 1 ≤ L.length := by unfold upK at hU; rw [hh] at hU; exact hU
    rw [hdrop]
    rw [hh] at HP
    have hfit := hm.row.fits
    have HF := Lib.hid (front_rd hm.row hle)
    have HT := Lib.hid (fun w' v ht hv => tail_rd hm.row hU2 w' ht (v := v) hv)
    clear hU hdrop hh hm
    generalize plc ltI L k = P at *
    have hobj := HM.out.obj.cell 0
    have hP0 : (0 : Int) ≤ P := by omega
    have hP1 : (P : Int) ≤ c := by have := HM.out.row.fits; omega
    have hP2 : (P : Int) + 1 ≤ L.length := by omega
    have hP5 : (P : Int) ≤ (P : Int) + 1 := by omega
    have hP4 : (0 : Int) ≤ (P : Int) + 1 := by omega
    have hP3 : IntKind.i64.wrap ((P : Int) + 1) = P + 1 := IntWalk.i64_in _ (by omega)
    cases A with
    | none => exact absurd hU2 (by rw [(hfit.2.2.2 rfl).1]; simp)
    | some ad =>
      clear hfit
      by_cases hck : c ≤ P + 1
      · have hck3 : c = P + 1 := by have := HM.out.row.fits; omega
        subst hck3
        have HT2 := Lib.hid (fun w' ht => HT.out w' _ ht (.inr (.inr ⟨ad, rfl, hck, rfl⟩)))
        go_enter Try.func27, Try.ntmps27
        go_wp2_with (go_at_call 46; refine HP.out.mono ?_; rintro e w' ⟨rfl, n, rfl⟩; have hobj0 := ((HM.out.obj.turn ((Turn.refl (fun _ => False) w).drewN (n + 1)) (fun f => f)).alloc (.cells #[] 42)).cell 0)
        go_region_law
          (first
            | (refine step_pairs _ rfl _ _ rfl _ [] rfl (New.empty w _).own _ rfl (L.take P) (HF.out _ (New.empty w _).turn) (by simp only [List.length_take, List.length_nil]; omega) ?_; intro A1 n1 c1 w1 ho ht hn; have HN1 := Lib.hid ((New.empty w _).step ho ht hn); have hobj1 := (HM.out.obj.turn HN1.out.turn (fun f => f)).cell 0; clear ho ht hn)
            | (refine step_pairs _ rfl _ _ rfl _ ([] ++ L.take P) rfl HN1.out.own _ rfl (L.drop (P + 1)) (HT2.out _ HN1.out.turn) (by simp only [List.length_take, List.length_drop, List.length_append, List.length_nil]; omega) ?_; intro A2 n2 c2 w2 ho ht hn; have HN2 := Lib.hid (HN1.out.step ho ht hn); have hobj2 := (HM.out.obj.turn HN2.out.turn (fun f => f)).cell 0; have hfree := (HM.out.obj.turn HN2.out.turn (fun f => f)).free 0; clear ho ht hn))
        all_goals go_wp2
        all_goals go_ret
        all_goals exact ⟨rfl, drop_post HM.out HN2.out⟩
      · have hck2 : ¬ c - (P + 1) = 0 := by omega
        have hck3 : ¬ c = P + 1 := by omega
        have HT2 := Lib.hid (fun w' ht => HT.out w' _ ht (.inr (.inl ⟨ad, rfl, hck, rfl⟩)))
        go_enter Try.func27, Try.ntmps27
        go_wp2_with (go_at_call 46; refine HP.out.mono ?_; rintro e w' ⟨rfl, n, rfl⟩; have hobj0 := ((HM.out.obj.turn ((Turn.refl (fun _ => False) w).drewN (n + 1)) (fun f => f)).alloc (.cells #[] 42)).cell 0)
        go_region_law
          (first
            | (refine step_pairs _ rfl _ _ rfl _ [] rfl (New.empty w _).own _ rfl (L.take P) (HF.out _ (New.empty w _).turn) (by simp only [List.length_take, List.length_nil]; omega) ?_; intro A1 n1 c1 w1 ho ht hn; have HN1 := Lib.hid ((New.empty w _).step ho ht hn); have hobj1 := (HM.out.obj.turn HN1.out.turn (fun f => f)).cell 0; clear ho ht hn)
            | (refine step_pairs _ rfl _ _ rfl _ ([] ++ L.take P) rfl HN1.out.own _ rfl (L.drop (P + 1)) (HT2.out _ HN1.out.turn) (by simp only [List.length_take, List.length_drop, List.length_append, List.length_nil]; omega) ?_; intro A2 n2 c2 w2 ho ht hn; have HN2 := Lib.hid (HN1.out.step ho ht hn); have hobj2 := (HM.out.obj.turn HN2.out.turn (fun f => f)).cell 0; have hfree := (HM.out.obj.turn HN2.out.turn (fun f => f)).free 0; clear ho ht hn))
        all_goals go_wp2
        all_goals go_ret
        all_goals exact ⟨rfl, drop_post HM.out HN2.out⟩

end Go.Proofs.Ytcepjmkhooahnaa
