
/-
  A map's keys of a range, rising, by a range over a function that ranges over another one.
-/
import Derived.Test.YtcepjmkhooahnaaHki
import Derived.Laws.EntriesVeiled
namespace Go.Proofs.Ytcepjmkhooahnaa.omi
open Go.RowKit Go.Shelf
attribute [local go_sem] Oper.semAt_some wide_fn

/-- What stands below 'to' comes first. -/
theorem range_step {from' to : Int} {x : Tr Int (List UInt8)} {pre : List (Int × List UInt8)} {y : Int × List UInt8} (hp : pre ++ [y] <+: Kept (fun k => ltI k from') x) (hb : ∀ p ∈ pre, ltI p.1 to = true) (hy : ltI y.1 to = true) :
    pre ++ [y] <+: rangeK ltI x.flat from' to := by
  obtain ⟨r, hr⟩ := hp
  have e : rangeK ltI x.flat from' to = (Kept (fun k => ltI k from') x).filter fun p => ltI p.1 to := by
    unfold rangeK Kept
    rw [List.filter_filter]
    congr 1
    funext p
    rw [Bool.and_comm]
  rw [e, ← hr, List.filter_append]
  refine ⟨r.filter fun p => ltI p.1 to, ?_⟩
  congr 1
  rw [List.filter_eq_self.2]
  intro p hp
  rcases List.mem_append.1 hp with h | h
  · exact hb p h
  · rw [List.mem_singleton.1 h]; exact hy
theorem range_end {from' to : Int} {x : Tr Int (List UInt8)} {pre : List (Int × List UInt8)} {y : Int × List UInt8} (hu : Up ltI x.flat) (hp : pre ++ [y] <+: Kept (fun k => ltI k from') x) (hb : ∀ p ∈ pre, ltI p.1 to = true) (hy : ltI y.1 to = false) :
    pre = rangeK ltI x.flat from' to := by
  obtain ⟨r, hr⟩ := hp
  have e : rangeK ltI x.flat from' to = (Kept (fun k => ltI k from') x).filter fun p => ltI p.1 to := by
    unfold rangeK Kept
    rw [List.filter_filter]
    congr 1
    funext p
    rw [Bool.and_comm]
  have hk : Up ltI (Kept (fun k => ltI k from') x) := by
    have h1 : List.Pairwise (fun a b : Int × List UInt8 => ltI a.1 b.1 = true) x.flat := by
      rw [List.pairwise_iff_getElem]
      intro i j hi hj hij
      exact hu i j _ _ hij (List.getElem?_eq_getElem hi) (List.getElem?_eq_getElem hj)
    have h2 := h1.filter (fun p => !(fun k => ltI k from') p.1)
    rw [List.pairwise_iff_getElem] at h2
    intro i j a b hij ha hb
    obtain ⟨hi, ea⟩ := List.getElem?_eq_some_iff.1 ha
    obtain ⟨hj, eb⟩ := List.getElem?_eq_some_iff.1 hb
    have := h2 i j hi hj hij
    rw [← ea, ← eb]
    exact this
  rw [e, ← hr, List.append_assoc, List.filter_append, List.filter_eq_self.2 hb]
  have h3 : ([y] ++ r).filter (fun p => ltI p.1 to) = [] := by
    rw [List.filter_eq_nil_iff]
    intro p hp
    rcases List.mem_append.1 hp with h | h
    · rw [List.mem_singleton.1 h, hy]; simp
    · obtain ⟨i, hi, e2⟩ := List.mem_iff_getElem.1 h
      have h4 : ltI y.1 p.1 = true := by
        refine hk pre.length (pre.length + 1 + i) y p (by omega) ?_ ?_
        · rw [← hr, List.append_assoc, List.getElem?_append_right (Nat.le_refl _), Nat.sub_self]; rfl
        · rw [← hr, List.getElem?_append_right (by simp), show pre.length + 1 + i - (pre ++ [y]).length = i by simp, List.getElem?_eq_getElem hi, e2]
      intro h5
      have := rises_ltI.tr _ _ _ h4 h5
      rw [hy] at this
      cases this
  rw [h3, List.append_nil]
theorem range_all {from' to : Int} {x : Tr Int (List UInt8)} {xs : List (Int × List UInt8)} (hx : xs = Kept (fun k => ltI k from') x) (hb : ∀ p ∈ xs, ltI p.1 to = true) : xs = rangeK ltI x.flat from' to := by
  have e : rangeK ltI x.flat from' to = (Kept (fun k => ltI k from') x).filter fun p => ltI p.1 to := by
    unfold rangeK Kept
    rw [List.filter_filter]
    congr 1
    funext p
    rw [Bool.and_comm]
  rw [e, ← hx, List.filter_eq_self.2 hb]

theorem round_in {F : Fence} {n : Nat} {P : Program} {l : Nat} {f : FuncId} {tmps : Array Value} {assign body : Code} {w : World} {R : Ending → World → Prop} (l0 : Nat) (h : RoundIn F n P l f tmps assign body w R) : RoundIn (F.inRound l0) n P l f tmps assign body w R := h

set_option maxRecDepth 100000 in
theorem below_any (q : Nat) (from' key : Int) (w : World) (hq : w.cell? ⟨q, 0, none⟩ = some (.int .i64 from')) :
    Calls Try.prog 32 #[.int .i64 key, .pointer (some ⟨q, 0, none⟩)] w fun e w' => e = .returned (.bool (ltI key from')) ∧ w = w' := by
  go_enter Try.func32, Try.ntmps32
  go_wp2_with (go_at_call 33; refine (less_any _ _ _).mono ?_; rintro e w' ⟨rfl, rfl⟩)
  go_ret
  exact ⟨rfl, rfl⟩

/-- What Range makes, of a map whose list is L. -/
structure RangeAt (w' : World) (qr qt qf q1 q2 : Nat) (from' to : Int) (L : List (Int × List UInt8)) : Prop where
  rest : Box w' qr 39 #[RisV q1 q2]
  top : Box w' qt 2 #[.int .i64 to]
  low : Box w' qf 2 #[.int .i64 from']
  src : ∃ A x, Src w' q1 q2 A 32 #[.pointer (some ⟨qf, 0, none⟩)] x (fun k => ltI k from') ∧ x.flat = L

set_option maxRecDepth 100000 in
set_option maxHeartbeats 2000000 in
theorem range_feeds (n : Nat) {w : World} {qr qt qf q1 q2 : Nat} {from' to : Int} {L : List (Int × List UInt8)} (h : RangeAt w qr qt qf q1 q2 from' to L) (S : Nat → Prop) (h1 : ¬ S qr) (h2 : ¬ S qt) (h3 : ¬ S qf) (h4 : ¬ S q1) (h5 : ¬ S q2) (hB : Base S w) :
    Feeds n 34 #[.pointer (some ⟨qr, 0, none⟩), .pointer (some ⟨qt, 0, none⟩)] prs S (fun pre y _ => pre ++ [y] <+: rangeK ltI L from' to) (fun xs => xs = rangeK ltI L from' to) (fun pre => pre <+: rangeK ltI L from' to) w := fun l J Jx W hW hlW hSW hJ hJx hY h0 => by
  obtain ⟨A, x, hs, hf⟩ := h.src
  have hWS : Turn S w W := hW.none
  have HRest := Lib.hid (h.rest.turn hWS h1)
  have HTop := Lib.hid (h.top.turn hWS h2)
  have HJ := Lib.hid hJ; have HJx := Lib.hid hJx; have HY := Lib.hid hY; have H0 := Lib.hid h0
  have HH := Lib.hid h; have HS := Lib.hid hs; have HF := Lib.hid hf; have HB := Lib.hid hB; have HW := Lib.hid hW; have HWS := Lib.hid hWS
  have HLW := Lib.hid hlW; have HSW := Lib.hid hSW
  have HN : Hid (¬ S qr ∧ ¬ S qt ∧ ¬ S qf ∧ ¬ S q1 ∧ ¬ S q2) := ⟨h1, h2, h3, h4, h5⟩
  have hcr := (HRest.out.alloc (.cells #[.func (.yield l) #[] #[]] 60)).cell 0
  clear hlW hSW hJ hJx hY h0 h hs hf hB hW hWS h1 h2 h3 h4 h5
  refine calls_depth (m := 5) ?_
  refine callsIn_of_wp_marks Try.func34 rfl trivial ?_ rfl
  simp only [Try.ntmps34, List.size_toArray, List.length_cons, List.length_nil, Nat.reduceAdd, Nat.reduceSub, Array.replicate_succ, Array.replicate_zero, List.push_toArray, List.append_toArray, List.nil_append, List.cons_append]
  gi_wp2_with fail
  obtain ⟨W1, hW1⟩ : ∃ W1, W1 = W.alloc (.cells #[.func (.yield l) #[] #[]] 60) := ⟨_, rfl⟩
  have HT1 : Hid (Turn (fun _ => False) W W1) := by rw [hW1]; exact (Turn.refl _ W).alloc _
  have HYB : Hid (Box W1 W.heap.size 60 #[.func (.yield l) #[] #[]]) := by rw [hW1]; exact Box.new W _ _
  have HSZ : Hid (W1.heap.size = W.heap.size + 1) := by show W1.heap.size = _; rw [hW1]; simp
  rw [← hW1]
  clear hW1 hcr
  have HSi : Hid (∀ k, (S k ∨ k = W1.heap.size + 1) → S k ∨ w.heap.size ≤ k) := fun k h => h.imp id (fun e => by have := HW.out.size; have := HSZ.out; omega)
  have HBi : Hid (Base (fun k => S k ∨ k = W1.heap.size + 1) w) := ⟨fun g cs hb e => by
    rcases HSi.out g e with h | h
    · exact HB.out.far g cs hb h
    · have := hb.lt; omega⟩
  have HNi : Hid (∀ q, q < w.heap.size → ¬ S q → ¬ (S q ∨ q = W1.heap.size + 1)) := fun q hq hn e => by
    rcases HSi.out q e with h | h
    · exact hn h
    · omega
  have hlt1 := HS.out.root.lt
  have hlt2 := HS.out.fun'.lt
  have HFD := Lib.hid (rising_feeds 4 HS.out (fun k => S k ∨ k = W1.heap.size + 1) (HNi.out q1 hlt1 HN.out.2.2.2.1) (HNi.out q2 hlt2 HN.out.2.2.2.2) HBi.out
    (fun key W' ht => below_any qf from' key W' ((HH.out.low.turn ht (HNi.out qf HH.out.low.lt HN.out.2.2.1)).cell 0)))
  clear hlt1 hlt2
  unfold RisV
  refine' over2 (n := 5) (by omega) (gf := 47) (lb := #[.pointer (some ⟨q1, 0, none⟩), .pointer (some ⟨q2, 0, none⟩)]) rfl (enters_of Try.func47 (by kernel_rfl) rfl)
    HFD.out (HW.out.trans HT1.out (fun _ _ f => f)) (Or.inr rfl) ?hS2 (fun pre => fun _ _ _ h _ => h) (fun _ => rfl)
    (fun (pre : List (Int × List UInt8)) V => J pre V ∧ (∀ p ∈ pre, ltI p.1 to = true) ∧ Box V W.heap.size 60 #[.func (.yield l) #[] #[]] ∧ Box V qt 2 #[.int .i64 to])
    (fun c xs V => c = .ret ∧ ((∃ pre, J pre V ∧ pre = rangeK ltI L from' to) ∨ (Jx xs V ∧ xs <+: rangeK ltI L from' to)))
    ?hI ?hIx ?h0 _ ?assign ?body ?done ?stop
  case hS2 =>
    intro k hk
    rcases hk with h | h
    · have := HSW.out k h; have := HSZ.out; omega
    · omega
  case hI =>
    intro s V V' ⟨h1, h2, h3, h4⟩ ht
    exact ⟨HJ.out.le (by have := HSZ.out; omega) _ _ _ h1 ht, h2, h3.odd ht, h4.odd ht⟩
  case hIx =>
    intro c s V V' ⟨h1, h2⟩ ht
    refine ⟨h1, h2.imp (fun ⟨pre, h3, h4⟩ => ⟨pre, HJ.out.le (by have := HSZ.out; omega) _ _ _ h3 ht, h4⟩) (fun ⟨h3, h4⟩ => ⟨HJx.out.le (by have := HSZ.out; omega) _ _ _ h3 ht, h4⟩)⟩
  case h0 => exact ⟨HJ.out _ _ _ H0.out HT1.out.none, fun p h => by simp at h, HYB.out, HTop.out.turn HT1.out (fun f => f)⟩
  case assign =>
    intro l0 x W K hK
    gi_wp2
    exact hK
  case body =>
    rintro l0 pre y V ⟨h1, h2, h3, h4⟩ hgv
    have ht0 := h4.cell 0
    have hy0 := h3.cell 0
    have HJ1 := Lib.hid h1; have H2 := Lib.hid h2; have H3 := Lib.hid h3; have H4 := Lib.hid h4; have HG := Lib.hid hgv
    clear h1 h2 h3 h4 hgv
    cases hlt : ltI y.1 to with
    | false =>
      have HL : Hid (∀ W, Calls Try.prog 33 #[.int .i64 y.1, .int .i64 to] W fun e w' => e = .returned (.bool false) ∧ W = w') := fun W => by have := less_any y.1 to W; rw [hlt] at this; exact this
      have HE : Hid (pre = rangeK ltI L from' to) := by have := range_end HS.out.up HG.out H2.out hlt; rw [HF.out] at this; exact this
      clear hlt
      gi_wp2_with fail
      refine (CallsIn.inRound l0 (callsIn_wide.2 (HL.out _))).mono ?_
      rintro e w2 ⟨rfl, rfl⟩
      gi_wp2
      exact ⟨Still.refl _ _, rfl, .inl ⟨pre, HJ1.out, HE.out⟩⟩
    | true =>
      have HL : Hid (∀ W, Calls Try.prog 33 #[.int .i64 y.1, .int .i64 to] W fun e w' => e = .returned (.bool true) ∧ W = w') := fun W => by have := less_any y.1 to W; rw [hlt] at this; exact this
      have HP : Hid (pre ++ [y] <+: rangeK ltI L from' to) := by have := range_step HG.out H2.out hlt; rw [HF.out] at this; exact this
      have H2' : Hid (∀ p ∈ pre ++ [y], ltI p.1 to = true) := fun p hp => by
        rcases List.mem_append.1 hp with h | h
        · exact H2.out p h
        · rw [List.mem_singleton.1 h]; exact hlt
      clear hlt
      obtain ⟨fn, tm, asg, bo, hy, hrr⟩ := yield_depth (m' := 5 - 1 - 1 - 1) (HY.out pre y V HJ1.out HP.out)
      have HRO := Lib.hid (round_in l0 hrr)
      clear hrr
      gi_wp2_with fail
      refine (CallsIn.inRound l0 (callsIn_wide.2 (HL.out _))).mono ?_
      rintro e w2 ⟨rfl, rfl⟩
      dsimp only [prs] at hy
      gi_wp2_with fail
      refine HRO.out.mono ?_
      rintro e V2 (⟨rfl, hj2, ht2, hs2⟩ | ⟨rfl, hx2, hs2⟩)
      · have HJ2 := Lib.hid hj2; have HT2 := Lib.hid ht2; have HS2 := Lib.hid hs2
        clear hj2 ht2 hs2
        gi_wp2
        refine ⟨HS2.out.le (by have := HLW.out; have := HSZ.out; omega), HT2.out.mono (fun _ _ h => .inl h), HJ2.out, H2'.out, H3.out.turn HT2.out (fun h => Nat.lt_irrefl _ (HSW.out _ h)), H4.out.turn HT2.out HN.out.2.1⟩
      · have HX2 := Lib.hid hx2; have HS2 := Lib.hid hs2
        clear hx2 hs2
        gi_wp2
        exact ⟨HS2.out.le (by have := HLW.out; have := HSZ.out; omega), rfl, .inr ⟨HX2.out, HP.out⟩⟩
  case done =>
    rintro D xs V hD hA ⟨h1, h2, h3, h4⟩ hK
    have hj : J xs (V.putObj D (.deferred none)) := HJ.out.put _ h1 (by have := HSZ.out; omega) hK rfl
    have hr := range_all (from' := from') (to := to) hA h2
    rw [HF.out] at hr
    gi_wp2
    refine ⟨by simp, .inl ⟨_, _, rfl, run_takeDeferred hK, ?_⟩⟩
    exact ⟨_, results_none rfl _ _ _, ⟨_, rfl⟩, .inl ⟨xs, hr, hj⟩⟩
  case stop =>
    rintro D c0 pre V hD hP ⟨rfl, h⟩ hK
    have hj : (∃ xs, xs = rangeK ltI L from' to ∧ J xs (V.putObj D (.deferred none))) ∨ ∃ xs, xs <+: rangeK ltI L from' to ∧ Jx xs (V.putObj D (.deferred none)) :=
      h.imp (fun ⟨q, h3, h4⟩ => ⟨q, h4, HJ.out.put _ h3 (by have := HSZ.out; omega) hK rfl⟩) (fun ⟨h3, h4⟩ => ⟨pre, h4, HJx.out.put _ h3 (by have := HSZ.out; omega) hK rfl⟩)
    clear h
    gi_wp2
    refine ⟨by simp, .inl ⟨_, _, rfl, run_takeDeferred hK, ?_⟩⟩
    exact ⟨_, results_none rfl _ _ _, ⟨_, rfl⟩, hj⟩

/-- The value that Range makes. -/
def RngV (qr qt : Nat) : Value := .func (.func 34) #[] #[.pointer (some ⟨qr, 0, none⟩), .pointer (some ⟨qt, 0, none⟩)]
structure Rng (w w' : World) (qr qt qf q1 q2 : Nat) (from' to : Int) (L : List (Int × List UInt8)) : Prop where
  at' : RangeAt w' qr qt qf q1 q2 from' to L
  new : w.heap.size ≤ qr ∧ w.heap.size ≤ qt ∧ w.heap.size ≤ qf ∧ w.heap.size ≤ q1 ∧ w.heap.size ≤ q2
  turn : Turn (fun _ => False) w w'
def RangePost (w : World) (from' to : Int) (L : List (Int × List UInt8)) (e : Ending) (w' : World) : Prop := ∃ qr qt qf q1 q2, e = .returned (RngV qr qt) ∧ Rng w w' qr qt qf q1 q2 from' to L
theorem rng_of {w w1 w3 : World} {q1 q2 : Nat} {from' to : Int} {L : List (Int × List UInt8)}
    (hw1 : w1 = (w.alloc (.cells #[.int .i64 from'] 2)).alloc (.cells #[.int .i64 to] 2)) (h : Ris w1 w3 q1 q2 32 #[.pointer (some ⟨w.heap.size, 0, none⟩)] L) :
    Rng w (w3.alloc (.cells #[RisV q1 q2] 39)) w3.heap.size (w.heap.size + 1) w.heap.size q1 q2 from' to L := by
  have t1 : Turn (fun _ => False) w w1 := by rw [hw1]; exact ((Turn.refl _ w).alloc _).alloc _
  have b1 : Box w1 w.heap.size 2 #[.int .i64 from'] := by rw [hw1]; exact (Box.new w _ _).alloc _
  have b2 : Box w1 (w.heap.size + 1) 2 #[.int .i64 to] := by
    have := Box.new (w.alloc (.cells #[.int .i64 from'] 2)) 2 #[.int .i64 to]
    rw [World.size_alloc] at this
    rw [hw1]; exact this
  have t3 : Turn (fun _ => False) w1 (w3.alloc (.cells #[RisV q1 q2] 39)) := h.turn.alloc _
  have t4 : Turn (fun _ => False) w3 (w3.alloc (.cells #[RisV q1 q2] 39)) := (Turn.refl _ w3).alloc _
  obtain ⟨A, x, hb1, hb2, hx, hf⟩ := h.out
  have s1 := t1.size
  have s3 := h.turn.size
  refine ⟨⟨Box.new w3 _ _, b2.turn t3 (fun f => f), b1.turn t3 (fun f => f), A, x, ⟨hb1.alloc _, hb2.alloc _, hx.later t4, by rw [hf]; exact h.up, enters_of Try.func32 (by kernel_rfl) rfl, fun a b hab hb => rises_ltI.tr _ _ _ hab hb⟩, hf⟩, ⟨by omega, by omega, Nat.le_refl _, Nat.le_trans s1 h.new1, Nat.le_trans s1 h.new2⟩, t1.trans t3 (fun _ _ f => f)⟩

set_option maxRecDepth 100000 in
theorem range_any {w : World} {g : Nat} {L : List (Int × List UInt8)} (from' to : Int) (h : MP w g L) :
    Calls Try.prog 14 #[.pointer (some ⟨g, 0, none⟩), .int .i64 from', .int .i64 to] w fun e w' => RangePost w from' to L e w' := by
  obtain ⟨w1, hw1⟩ : ∃ w1, w1 = (w.alloc (.cells #[.int .i64 from'] 2)).alloc (.cells #[.int .i64 to] 2) := ⟨_, rfl⟩
  have HR := Lib.hid (rising_any 32 #[.pointer (some ⟨w.heap.size, 0, none⟩)] (h.later (w' := w1) (by rw [hw1]; exact ((Turn.refl _ w).alloc _).alloc _)))
  have HW1 := Lib.hid hw1
  clear h hw1
  go_enter Try.func14, Try.ntmps14
  go_wp2_with fail
  rw [← HW1.out]
  refine HR.out.mono ?_
  rintro e w3 ⟨q1, q2, rfl, hr⟩
  have HX := Lib.hid (rng_of HW1.out hr); clear hr
  have hcell := (Box.new w3 39 #[.nilFunc]).cell 0
  have hfree := (Box.new w3 39 #[.nilFunc]).free 0
  unfold RisV at *
  go_wp2
  go_ret
  exact ⟨w3.heap.size, w.heap.size + 1, w.heap.size, q1, q2, rfl, HX.out⟩
set_option maxRecDepth 100000 in
theorem range_nil (from' to : Int) (w : World) :
    Calls Try.prog 14 #[.pointer none, .int .i64 from', .int .i64 to] w fun e w' => RangePost w from' to [] e w' := by
  obtain ⟨w1, hw1⟩ : ∃ w1, w1 = (w.alloc (.cells #[.int .i64 from'] 2)).alloc (.cells #[.int .i64 to] 2) := ⟨_, rfl⟩
  have HR := Lib.hid (rising_nil 32 #[.pointer (some ⟨w.heap.size, 0, none⟩)] w1)
  have HW1 := Lib.hid hw1
  clear hw1
  go_enter Try.func14, Try.ntmps14
  go_wp2_with fail
  rw [← HW1.out]
  refine HR.out.mono ?_
  rintro e w3 ⟨q1, q2, rfl, hr⟩
  have HX := Lib.hid (rng_of HW1.out hr); clear hr
  have hcell := (Box.new w3 39 #[.nilFunc]).cell 0
  have hfree := (Box.new w3 39 #[.nilFunc]).free 0
  unfold RisV at *
  go_wp2
  go_ret
  exact ⟨w3.heap.size, w.heap.size + 1, w.heap.size, q1, q2, rfl, HX.out⟩

end Go.Proofs.Ytcepjmkhooahnaa.omi
