
/-
  'FrameEach': the frames of any bytes, as far as they are asked, and how many bytes they have, are the document's. No condition.
-/
import Derived.Test.YtjhgbbmghgeeoaaFg
import Derived.Test.YtjhgbbmghgeeoaaFh
import Derived.Test.YtjhgbbmghgeeoaaBs
namespace Go.Proofs.Ytjhgbbmghgeeoaa.frameEach
open Go.ChangeShapes Go.WideShapes Go.ChangeAt Go.RowKit Go.Shelf
set_option linter.unusedVariables false
attribute [local go_sem] Oper.semAt_some

theorem own : ownKnob Try.prog.godebug = none := by kernel_rfl
theorem laidOut : laidOutB Try.prog = true := by kernel_rfl

/-- What each round finds. -/
theorem fixed {w w1 w2 w3 w4 W : World} {k : Int} {N : Nat} {A1 A2 : Option Addr} {c1 c2 : Nat} {P : List Nat} {L : List (List UInt8)}
    (t1 : Turn (fun _ => False) ((w.alloc (.cells #[.int .i64 k] 3)).alloc (.cells #[.bool false] 4)) w1) (t2 : Turn (fun _ => False) w1 w2)
    (t3 : Turn (fun _ => False) ((w2.alloc (.cells #[.slice A1 N c1] 24)).alloc (.cells #[.slice A2 N c2] 25)) w3) (t4 : Turn (fun _ => False) (w3.alloc (.cells #[.int .i64 0] 3)) w4)
    (hn : Nums w2 (.slice A1 N c1) P) (hr : Rds w2 (.slice A2 N c2) L) (ht : Turn (fun g => g = w3.heap.size) w4 W) :
    Box W w.heap.size 3 #[.int .i64 k] ∧ Box W (w.heap.size + 1) 4 #[.bool false] ∧ Box W w2.heap.size 24 #[.slice A1 N c1] ∧ Box W (w2.heap.size + 1) 25 #[.slice A2 N c2] ∧
      Nums W (.slice A1 N c1) P ∧ Rds W (.slice A2 N c2) L ∧ Turn (fun _ => False) w W := by
  have s1 : w.heap.size + 2 ≤ w1.heap.size := by have := t1.size; simpa using this
  have s2 := t2.size
  have s3 : w2.heap.size + 2 ≤ w3.heap.size := by have := t3.size; simpa using this
  have t0 : Turn (fun _ => False) w w1 := (((Turn.refl _ w).alloc _).alloc _).trans t1 (fun _ _ f => f)
  have t23 : Turn (fun _ => False) w2 w4 := ((((((Turn.refl _ w2).alloc _).alloc _).trans t3 (fun _ _ f => f)).alloc _).trans t4 (fun _ _ f => f))
  have tb : Turn (fun g => w2.heap.size ≤ g) w2 W := t23.none.trans ht (fun g _ e => by rw [e]; omega)
  have t14 : Turn (fun g => g = w3.heap.size) w1 W := (t2.trans t23 (fun _ _ f => f)).none.trans ht (fun _ _ e => e)
  refine ⟨?_, ?_, ?_, ?_, hn.below tb (Nat.le_refl _), hr.below tb (Nat.le_refl _), (t0.trans (t2.trans t23 (fun _ _ f => f)) (fun _ _ f => f)).fresh ht (fun g e => by rw [e]; omega)⟩
  · exact (((Box.new w _ _).alloc _).turn t1 (fun f => f)).turn t14 (by omega)
  · have h := Box.new (w.alloc (.cells #[.int .i64 k] 3)) 4 #[.bool false]
    rw [World.size_alloc] at h
    exact (h.turn t1 (fun f => f)).turn t14 (by omega)
  · exact ((((((Box.new w2 _ _).alloc _).turn t3 (fun f => f)).alloc _).turn t4 (fun f => f))).turn ht (by omega)
  · have h := Box.new (w2.alloc (.cells #[.slice A1 N c1] 24)) 25 #[.slice A2 N c2]
    rw [World.size_alloc] at h
    exact (((h.turn t3 (fun f => f)).alloc _).turn t4 (fun f => f)).turn ht (by omega)

set_option maxRecDepth 100000 in
set_option maxHeartbeats 2000000 in
theorem walk (v : Value) (l : List UInt8) (k : Int) (w : World) (h : Rd w v l) (hlen : l.length ≤ maxLen) :
    Calls Try.prog 3 #[v, .int .i64 k] w fun e w' => e = .returned (.bool true) ∧ Below w.heap.size w w' := by
  have HV := Lib.hid h
  obtain ⟨A, c, rfl⟩ := h.shape
  clear h
  unfold maxLen at hlen
  refine (callsIn_wide (n := 5)).1 ?_
  refine callsIn_of_wp_marks Try.func3 rfl trivial ?_ rfl
  simp only [Try.ntmps3, List.size_toArray, List.length_cons, List.length_nil, Nat.reduceAdd, Nat.reduceSub, Array.replicate_succ, Array.replicate_zero, List.push_toArray, List.append_toArray, List.nil_append, List.cons_append]
  by_cases h400 : l.length ≤ 400
  · obtain ⟨N, hN⟩ : ∃ N, N = (allOf l).length := ⟨_, rfl⟩
    have HAP : Hid (∀ W e W', AllPost W l e W' → ∃ A1 c1 A2 c2, e = .returned (.tuple #[.slice A1 N c1, .slice A2 N c2, .int .i64 (endOf 0 (allOf l) : Nat)]) ∧ Nums W' (.slice A1 N c1) ((allOf l).map (·.1)) ∧ Rds W' (.slice A2 N c2) ((allOf l).map (·.2)) ∧ Turn (fun _ => False) W W') := by
      rintro W e W' ⟨v1, v2, he, h1, h2, ht⟩
      obtain ⟨A1, c1, e1⟩ := h1.shape
      obtain ⟨A2, c2, e2⟩ := h2.shape
      rw [List.length_map, ← hN] at e1 e2
      subst e1 e2
      exact ⟨A1, c1, A2, c2, he, h1, h2, ht⟩
    have HN := Lib.hid hN; clear hN
    obtain ⟨E, hE⟩ : ∃ E, E = endOf 0 (allOf l) := ⟨_, rfl⟩
    rw [← hE] at HAP
    have HE := Lib.hid hE; clear hE
    gi_wp2_with (first
      | (refine ⟨trivial, ?_⟩; gi_at_call 5; refine (callsIn_wide.2 (alive_any3 _)).mono ?_; rintro e w1 ⟨rfl, ht⟩; have HT1 := Lib.hid ht; clear ht)
      | (refine ⟨trivial, ?_⟩; gi_at_call 6; refine (callsIn_wide.2 (ref_all _ l w1 (HV.out.later ((((Turn.refl _ w).alloc _).alloc _).trans HT1.out (fun _ _ f => f))) (by omega))).mono ?_; intro e w2 hp; obtain ⟨A1, c1, A2, c2, rfl, h1, h2, ht⟩ := HAP.out _ _ _ hp; have HNU := Lib.hid h1; have HRD := Lib.hid h2; have HT2 := Lib.hid ht; clear hp h1 h2 ht)
      | (refine ⟨trivial, ?_⟩; gi_at_call 7; refine (callsIn_wide.2 (whole_any _ l _ (HV.out.later ((((((Turn.refl _ w).alloc _).alloc _).trans HT1.out (fun _ _ f => f)).trans HT2.out (fun _ _ f => f)).alloc _ |>.alloc _)) (by omega))).mono ?_; rintro e w3 ⟨rfl, ht⟩; rw [← HE.out]; have HT3 := Lib.hid ht; clear ht)
      | (refine ⟨trivial, ?_⟩; gi_at_call 8; refine (callsIn_wide.2 (each_any _ l _ (HV.out.later (((((((((Turn.refl _ w).alloc _).alloc _).trans HT1.out (fun _ _ f => f)).trans HT2.out (fun _ _ f => f)).alloc _).alloc _).trans HT3.out (fun _ _ f => f)).alloc _)) (by omega))).mono ?_; rintro e w4 ⟨q, u, rfl, hq, hu, ht, hqs, hus⟩; have HQ := Lib.hid hq; have HU := Lib.hid hu; have HT4 := Lib.hid ht; have HQS := Lib.hid hqs; have HUS := Lib.hid hus; clear hq hu ht hqs hus))
    have HFX : Hid (∀ W, Turn (fun g => g = w3.heap.size) w4 W → _) := fun W ht => fixed HT1.out HT2.out HT3.out HT4.out HNU.out HRD.out ht
    have hsz : w3.heap.size + 1 ≤ w4.heap.size := by have := HT4.out.size; simpa using this
    have HSZ := Lib.hid hsz
    clear hsz
    have HNE : Hid (w.heap.size + 2 ≤ w3.heap.size) := by
      have h1 : w.heap.size + 2 ≤ w1.heap.size := by have := HT1.out.size; simpa using this
      have h2 := HT2.out.size
      have h3 : w2.heap.size + 2 ≤ w3.heap.size := by have := HT3.out.size; simpa using this
      show w.heap.size + 2 ≤ w3.heap.size
      omega
    refine over (n := 5) (by omega) (gf := 15) (lb := #[.pointer (some ⟨q, 0, none⟩)]) rfl (enters_of Try.func15 (by kernel_rfl) rfl)
      (frames_give 4 (by omega) q u l w4 HQ.out HU.out.rd (by omega) (fun g => g = w3.heap.size ∨ w4.heap.size ≤ g) ?hq ?hu) (Turn.refl _ _) (fun k h => .inr h) (fun pre => frGv_holds _ l pre) (fun _ => rfl)
      (fun (pre : List Fr) W => (Box W w3.heap.size 3 #[.int .i64 (pre.length : Nat)] ∧ Turn (fun g => g = w3.heap.size) w4 W) ∧ ∀ m : Nat, 1 ≤ m → m ≤ pre.length → (m : Int) ≠ k)
      (fun c (pre : List Fr) W => (Box W w3.heap.size 3 #[.int .i64 (pre.length : Nat)] ∧ Turn (fun g => g = w3.heap.size) w4 W) ∧ c = .exit 0 ∧ 1 ≤ pre.length ∧ (pre.length : Int) = k)
      (Holds.and (Holds.and (holds_box _ _ _ (fun (pre : List Fr) => #[.int .i64 (pre.length : Nat)])) (holds_turn (fun k h1 h2 => by omega))) (holds_pure _ _))
      (fun c => Holds.and (Holds.and (holds_box _ _ _ (fun (pre : List Fr) => #[.int .i64 (pre.length : Nat)])) (holds_turn (fun k h1 h2 => by omega))) (holds_pure _ _))
      ⟨⟨(Box.new w3 _ _).turn HT4.out (fun f => f), Turn.refl _ _⟩, fun m h1 h2 => absurd h2 (by simp; omega)⟩
      (fun (x : Fr) => { tmps := #[.slice A l.length c, .int .i64 k, undef, .pointer (some ⟨w.heap.size, 0, none⟩), .pointer (some ⟨w.heap.size + 1, 0, none⟩), .pointer (some ⟨w2.heap.size, 0, none⟩), .pointer (some ⟨w2.heap.size + 1, 0, none⟩), .int .i64 E,
        .pointer (some ⟨w3.heap.size, 0, none⟩), .int .i64 x.1.1, .slice x.2.1 x.1.2.length x.2.2, undef, .bool true, .bool false, .slice A l.length c, .int .i64 l.length, .bool (decide (400 < (l.length : Int))),
        .tuple #[.slice A1 N c1, .slice A2 N c2, .int .i64 E], .slice A l.length c, .tuple #[.slice A1 N c1, .slice A2 N c2, .int .i64 E], .slice A1 N c1, .slice A2 N c2, .int .i64 E, .slice A l.length c, .int .i64 E, .int .i64 E, .bool false, .slice A l.length c,
        .func (.func 15) #[] #[.pointer (some ⟨q, 0, none⟩)], .int .i64 x.1.1, .slice x.2.1 x.1.2.length x.2.2, undef, undef, undef, undef, undef, undef, undef, undef, undef, undef, undef, undef, undef, undef, undef, undef, undef, undef, undef, undef, undef, undef, undef, undef, undef, undef, undef, undef, undef, undef, undef, undef, undef, undef, undef, undef, undef, undef, undef], defers := [] }) ?assign ?body ?done ?stop
    case hq =>
      have h1 : w3.heap.size + 1 ≤ q := by have := HQS.out; simpa using this
      have h2 := HQ.out.lt
      omega
    case hu =>
      intro g hk
      have h1 : w3.heap.size + 1 ≤ g := by have := HUS.out g hk; simpa using this
      have h2 := HU.out.lt hk
      omega
    case assign =>
      intro l0 x W K hK
      gi_wp2
      exact hK
    case body =>
      rintro l0 pre x W ⟨⟨hb, ht⟩, hm⟩ hgv
      obtain ⟨x0, x1, x5, x6, hnu, hrd, htw⟩ := HFX.out W ht
      obtain ⟨hr, hpre⟩ := hgv
      obtain ⟨⟨i, p⟩, ⟨Au, cu⟩⟩ := x
      dsimp only at hr
      obtain ⟨m, hmm⟩ : ∃ m, m = pre.length := ⟨_, rfl⟩
      have hget : (allOf l)[m]? = some (i, p) := by
        obtain ⟨t, e⟩ := hpre
        rw [← e, hmm, List.map_append, List.append_assoc, List.getElem?_append_right (by simp)]
        simp
      have hmN : m < N := by rw [HN.out]; exact (List.getElem?_eq_some_iff.1 hget).1
      have hgi : ((allOf l).map (·.1))[m]? = some i := by rw [List.getElem?_map, hget]; rfl
      have hgp : ((allOf l).map (·.2))[m]? = some p := by rw [List.getElem?_map, hget]; rfl
      obtain ⟨ad1, rfl, hci⟩ := hnu.at hgi
      obtain ⟨ad2, A3, c3, rfl, hcp, hrp⟩ := hrd.at hgp
      rw [← hmm] at hb hm
      have hNle : N ≤ 1000000 := by have := allOf_len l; have := HN.out; omega
      have c0 := x0.cell 0
      have c5 := x5.cell 0
      have c6 := x6.cell 0
      have c8 := hb.cell 0
      have f8 := hb.free 0
      have HR := Lib.hid hr; have HRP := Lib.hid hrp; have HB := Lib.hid hb; have HT := Lib.hid ht; have HM := Lib.hid hm; have HP := Lib.hid hpre; have HMM := Lib.hid hmm; have X0 := Lib.hid x0; have HTW := Lib.hid htw
      clear hr hrp hb ht hm hpre hmm x0 x1 x5 x6 hnu hrd hget hgi hgp htw
      have c0b : (W.setCell ⟨w3.heap.size, 0, none⟩ (.int .i64 ((m : Int) + 1))).cell? ⟨w.heap.size, 0, none⟩ = some (.int .i64 k) := (X0.out.far (p := ⟨w3.heap.size, 0, none⟩) (by have := HNE.out; show w.heap.size ≠ w3.heap.size; omega) _).cell 0
      gi_wp2_with (refine ⟨trivial, ?_⟩; gi_at_call 9; refine (CallsIn.inRound l0 (callsIn_wide.2 (same_any _ _ p p W HR.out HRP.out))).mono ?_; rintro e w5 ⟨rfl, rfl⟩)
      all_goals
        have hbx : Box (W.setCell ⟨w3.heap.size, 0, none⟩ (.int .i64 ((m : Int) + 1))) w3.heap.size 3 #[.int .i64 ((pre ++ [((i, p), (Au, cu))] : List Fr).length : Nat)] := by
          have h := HB.out.set 0 (.int .i64 ((m : Int) + 1))
          have e : (((pre ++ [((i, p), (Au, cu))] : List Fr).length : Nat) : Int) = (m : Int) + 1 := by rw [HMM.out, List.length_append]; simp
          rw [e]
          simpa using h
        have htx : Turn (fun g => g = w3.heap.size) w4 (W.setCell ⟨w3.heap.size, 0, none⟩ (.int .i64 ((m : Int) + 1))) := HT.out.setCell (p := ⟨w3.heap.size, 0, none⟩) (fun _ => rfl) _
        rename_i hlt hk
        have hml := HMM.out
      · have e : (m : Int) + 1 = k := by simpa using hk
        refine ⟨KeepsOthers.setCell _ _ _, ⟨hbx, htx⟩, rfl, by simp, ?_⟩
        rw [List.length_append, ← hml]
        simpa using e
      · have e : ¬ (m : Int) + 1 = k := by simpa using hk
        refine ⟨KeepsOthers.setCell _ _ _, (Turn.refl _ W).setCell (p := ⟨w3.heap.size, 0, none⟩) (fun _ => .inl rfl) _, ⟨hbx, htx⟩, fun j h1 h2 => ?_⟩
        rw [List.length_append, ← hml] at h2
        simp at h2
        rcases Nat.lt_or_ge m j with h | h
        · have : j = m + 1 := by omega
          subst this
          intro h3
          exact e (by omega)
        · exact HM.out j h1 h
    case done =>
      rintro D xs W hD hA ⟨⟨hb, ht⟩, hm⟩ hK
      have hlenN : xs.length = N := by rw [HN.out, ← hA, List.length_map]
      rw [hlenN] at hb hm
      have hk0 : k ≤ 0 ∨ (0 < k ∧ (N : Int) < k) := by
        by_cases h0 : 0 < k
        · by_cases h1 : (N : Int) < k
          · exact .inr ⟨h0, h1⟩
          · obtain ⟨j, rfl⟩ := Int.eq_ofNat_of_zero_le (Int.le_of_lt h0)
            exact absurd rfl (hm j (by omega) (by omega))
        · exact .inl (by omega)
      obtain ⟨x0, x1, x5, x6, hnu, hrd, htw⟩ := HFX.out W ht
      have c0 := x0.cell 0
      have c1 := x1.cell 0
      have f1 := x1.free 0
      have c6 := x6.cell 0
      have c8 := hb.cell 0
      have hK' := (KeepsOthers.setCell W ⟨w.heap.size + 1, 0, none⟩ (.bool true)).same D _ hK rfl
      have hc9 := cell_kept ((x1.set 0 (.bool true)).cell 0) (grownBy_putObj' _ D (.deferred none)) (fun r e => by cases e; exact ⟨_, hK', rfl⟩)
      have HT9 : Hid (Turn (fun _ => False) w ((W.setCell ⟨w.heap.size + 1, 0, none⟩ (.bool true)).putObj D (.deferred none))) :=
        (htw.setCell (p := ⟨w.heap.size + 1, 0, none⟩) (fun h => absurd h (by simp)) _).fresh (Turn.putObj _ D _ (S := fun g => g = D) rfl) (fun g e => by rw [e]; have := HSZ.out; have := HNE.out; omega)
      have HK := Lib.hid hK'; have H9 := Lib.hid hc9
      clear hb ht hm x0 x1 x5 x6 hnu hrd htw hK' hc9 hA hlenN
      rcases hk0 with h0 | ⟨h0, h1⟩
      all_goals
        gi_wp2
        refine ⟨by simp, .inl ⟨_, _, rfl, run_takeDeferred HK.out, ?_⟩⟩
        have h9 := H9.out
        refine ⟨.bool true, ?_, rfl, HT9.out.below (Nat.le_refl _) (fun _ f => f.elim)⟩
        simp [results, Try.f3, go_sem, h9]
    case stop =>
      rintro D c0 pre W hD hP ⟨⟨hb, ht⟩, rfl, h1, rfl⟩ hK
      have hpN : pre.length ≤ N := by
        have h := hP.length_le
        rw [List.length_map] at h
        rw [HN.out]
        exact h
      obtain ⟨m, hm⟩ : ∃ m, m = pre.length := ⟨_, rfl⟩
      obtain ⟨x0, x1, x5, x6, hnu, hrd, htw⟩ := HFX.out W ht
      rw [← hm] at hb x0 h1 hpN ⊢
      have c0 := x0.cell 0
      have c1 := x1.cell 0
      have f1 := x1.free 0
      have c6 := x6.cell 0
      have c8 := hb.cell 0
      have hK' := (KeepsOthers.setCell W ⟨w.heap.size + 1, 0, none⟩ (.bool true)).same D _ hK rfl
      have hc9 := cell_kept ((x1.set 0 (.bool true)).cell 0) (grownBy_putObj' _ D (.deferred none)) (fun r e => by cases e; exact ⟨_, hK', rfl⟩)
      have HT9 : Hid (Turn (fun _ => False) w ((W.setCell ⟨w.heap.size + 1, 0, none⟩ (.bool true)).putObj D (.deferred none))) :=
        (htw.setCell (p := ⟨w.heap.size + 1, 0, none⟩) (fun h => absurd h (by simp)) _).fresh (Turn.putObj _ D _ (S := fun g => g = D) rfl) (fun g e => by rw [e]; have := HSZ.out; have := HNE.out; omega)
      have HK := Lib.hid hK'; have H9 := Lib.hid hc9
      clear hb ht x0 x1 x5 x6 hnu hrd htw hK' hc9 hP hm
      by_cases hmN : m < N
      · gi_wp2
        refine ⟨by simp, .inl ⟨_, _, rfl, run_takeDeferred HK.out, ?_⟩⟩
        have h9 := H9.out
        refine ⟨.bool true, ?_, rfl, HT9.out.below (Nat.le_refl _) (fun _ f => f.elim)⟩
        simp [results, Try.f3, go_sem, h9]
      · obtain rfl : m = N := by omega
        gi_wp2
        refine ⟨by simp, .inl ⟨_, _, rfl, run_takeDeferred HK.out, ?_⟩⟩
        have h9 := H9.out
        refine ⟨.bool true, ?_, rfl, HT9.out.below (Nat.le_refl _) (fun _ f => f.elim)⟩
        simp [results, Try.f3, go_sem, h9]
  · have h401 : 400 < l.length := by omega
    clear h400
    gi_wp2_with (refine ⟨trivial, ?_⟩; gi_at_call 5; refine (callsIn_wide.2 (alive_any3 _)).mono ?_; rintro e w1 ⟨rfl, ht⟩; have hb1 := (Box.new (w.alloc (.cells #[.int .i64 k] 3)) 4 #[.bool false]).turn ht (fun f => f); rw [World.size_alloc] at hb1; have hc1 := hb1.cell 0; have hf1 := hb1.free 0; have HT1 := Lib.hid ht; have HB1 := Lib.hid hb1; clear ht hb1)
    refine ⟨.bool true, ?_, rfl, ?_⟩
    · have h2 := (HB1.out.set 0 (.bool true)).cell 0
      simp [results, Try.f3, go_sem, h2]
    · exact (((((Turn.refl _ w).alloc _).alloc _).trans HT1.out (fun _ _ f => f)).setCell (p := ⟨w.heap.size + 1, 0, none⟩) (fun h => absurd h (by simp)) _).below (Nat.le_refl _) (fun _ f => f.elim)

set_option maxRecDepth 100000 in
theorem lifted (os : Os) (started : os.Started) (H : Type) (enc : TypeId × Value → H) :
    ReturnsInHanded {} Try.checked os 3 .any (Rows.frameEachSpec.pre6 enc Try.prog Try.f3 Rows.frameEachRow.domain false) (Rows.frameEachSpec.post enc Try.prog Try.f3 false true false false) := by
  refine returnsInHanded_of_change (C := Try.checked) own started (by kernel_rfl) Try.func3
    (ChangeSpec.witness6 (enc := enc) (C := Try.checked) false ⟨#[], #[.slice none 0 0, .int .i64 0], []⟩ 8 (by kernel_rfl) (by kernel_rfl) (by kernel_rfl) (by kernel_rfl)) ?_
  intro W base args ds gs before hval0 hW hcnd _
  have hval : ∀ (j : Nat) t v, Try.f3.params[j]? = some t → args[j]? = some v → Value.okWide Try.prog W .any base t v := hval0
  have hW' := hW
  obtain ⟨p, q, hA0, hV, rfl, hfz, hnd⟩ := hW
  have hA : DataW.TrodAll enc Try.prog W 0 (fun _ => true) true Try.f3.params.toList args.toList ds p := hA0
  rw [Try.params3] at hA hval
  obtain ⟨v0, vs0, d0, ds0, p0, q0, hargs, rfl, rfl, h0, r0⟩ := trodAll_cons hA
  obtain ⟨v1, vs1, d1, ds1, p1, q1, rfl, rfl, rfl, h1, r1⟩ := trodAll_cons r0
  obtain ⟨rfl, rfl, rfl⟩ := trodAll_nil r1
  obtain rfl : args = #[v0, v1] := by cases args; simp_all
  obtain ⟨rfl, rfl⟩ := trodVars_none hV
  have k0 := h0
  have lt0 : ∀ x ∈ p0, x.block < W.heap.size := by obtain ⟨m, hm⟩ := k0; exact DataW.trod_lt m _ _ _ hm
  obtain ⟨a0, len0, cap0, rfl⟩ := okWide_slice Try.underlying22 (hval 0 22 v0 rfl rfl)
  obtain ⟨l0, hp0, hl0⟩ := open_bytes rfl h0
  obtain ⟨a1, rfl, rfl, rfl, w1⟩ := open_int Try.underlying3 (hval 1 3 v1 rfl rfl) h1
  clear hA0 hval0
  refine (walk _ l0 a1 W hp0 hl0).mono fun e W' ⟨he, bel⟩ => ?_
  subst he
  exact ⟨_, rfl, _, _, _, [], _, [], hW', trodAll_mk1 (shut_bool Try.underlying4 _), (trodAll_cons_mk (Below.trod laidOut (by kernel_rfl) (of_decide_eq_true (by kernel_rfl)) k0 bel lt0) (trodAll_cons_mk (shut_int Try.underlying3 w1) trodAll_mk0)), rfl, bel.frame _, fun h => by cases h⟩

theorem over : Rows.frameEachRow.holds Try.pinned (OpenSpec.ofChange Rows.frameEachSpec) :=
  OpenClaim.holds_of_wide 3 Try.f3 rfl rfl rfl rfl rfl rfl rfl ⟨rfl, rfl, rfl, rfl, rfl⟩ rfl rfl rfl rfl rfl (by kernel_rfl) Try.func3 (by kernel_rfl)
    (of_decide_eq_true (by kernel_rfl)) (by unfold Func.isWrapper; first | (rw [if_pos (by decide +kernel)]; kernel_rfl) | (rw [if_neg (by decide +kernel)]; exact ⟨rfl, rfl⟩))
    (fun os started H enc _ => lifted os started H enc)

theorem proved : Rows.FrameEachSaid := over
#print axioms proved
end Go.Proofs.Ytjhgbbmghgeeoaa.frameEach
