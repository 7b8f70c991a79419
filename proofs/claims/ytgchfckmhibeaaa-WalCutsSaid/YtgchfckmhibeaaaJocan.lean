/-
  Texts laid one behind the other: R1t R1t2 R1u R1x R1x2 R1y R1v Zo.
-/
import Derived.Test.YtgchfckmhibeaaaJocam
import Derived.WalkMore
import Derived.Test.YtgchfckmhibeaaaJocal
import Derived.Test.YtgchfckmhibeaaaJocai
import Derived.Test.YtgchfckmhibeaaaJocae
import Derived.Lib.SliceRun
import Derived.Test.YtgchfckmhibeaaaJocaf
import Derived.Laws.IdiomArrays

/-
  Stage 17: the program's Replay: a range over a function in a labelled loop.
-/
namespace Go.Proofs.Ytgchfckmhibeaaa
open Go.RowKit Go.Shelf
attribute [local go_sem] Oper.semAt_some wide_fn

set_option maxRecDepth 100000

theorem ends_snoc_at17 : ∀ (l : List (Nat × List UInt8)) (i : Nat) (x : Nat × List UInt8), endOf i (l ++ [x]) = x.1 + sz x.2.length
  | [], _, _ => rfl
  | y :: r, _, x => ends_snoc_at17 r (y.1 + sz y.2.length) x
/-- A frame begins where those ahead of it end, and ends within the bytes. -/
theorem all_at17 : ∀ (f i : Nat) (l : List UInt8) (pre : List (Nat × List UInt8)) (x : Nat × List UInt8), pre ++ [x] <+: allF f i l → x.1 = endOf i pre ∧ x.1 + sz x.2.length ≤ i + l.length
  | 0, _, _, pre, x, h => by
    have := h.length_le
    simp [allF] at this
  | f + 1, i, l, pre, x, h => by
    by_cases h0 : (takes l).2.2 = 0
    · obtain ⟨h1, h2, _⟩ := takes_sz l h0
      rw [allF_step h0] at h
      cases pre with
      | nil =>
        rw [List.nil_append] at h
        have hx : x = (i, (takes l).1) := (List.cons_prefix_cons.1 h).1
        rw [hx]
        refine ⟨rfl, ?_⟩
        show i + sz (takes l).1.length ≤ _
        omega
      | cons y r =>
        rw [List.cons_append] at h
        obtain ⟨hy, hr⟩ := List.cons_prefix_cons.1 h
        obtain ⟨g1, g2⟩ := all_at17 f _ _ r x hr
        rw [List.length_drop] at g2
        refine ⟨?_, by omega⟩
        show _ = endOf (y.1 + sz y.2.length) r
        rw [hy, g1, h1]
    · rw [allF_stop h0] at h
      have := h.length_le
      simp at this
theorem parse_seq17 {p : List UInt8} {n : Int} (h : (parse17 p n).2 = 0) : 1 ≤ (parse17 p n).1.seq := by
  unfold parse17 at h ⊢
  by_cases h1 : okDims n = true
  · rw [if_pos h1] at h ⊢
    dsimp only at h ⊢
    by_cases h2 : (sNum' (sNum' (sNum' (p, 0)))).2 ≠ 0
    · rw [if_pos h2] at h
      exact absurd h (by show ¬ ((((sNum' (sNum' (sNum' (p, 0)))).2 : Nat) : Int) = 0); omega)
    · rw [if_neg h2] at h ⊢
      by_cases h3 : numsR17 (sNum (p, 0)) (sNum (sNum' (p, 0))) (sNum (sNum' (sNum' (p, 0)))) = false
      · rw [if_pos h3] at h
        exact absurd h (by decide)
      · rw [if_neg h3] at h ⊢
        by_cases h4 : (readB (sNum' (sNum' (sNum' (p, 0)))).1 n).1 ≠ 0
        · rw [if_pos h4] at h
          exact absurd h h4
        · rw [if_neg h4]
          have h5 : numsR17 (sNum (p, 0)) (sNum (sNum' (p, 0))) (sNum (sNum' (sNum' (p, 0)))) = true := by simpa using h3
          unfold numsR17 in17 at h5
          simp only [Bool.and_eq_true, decide_eq_true_iff] at h5
          exact h5.1.1.1
  · rw [if_neg h1] at h
    exact absurd h (by decide)

/-- The last batch's number; none: 0. -/
def last17 (L : List B17) : Int := (L.getLast?.map (·.seq)).getD 0
theorem last_snoc17 (L : List B17) (b : B17) : last17 (L ++ [b]) = b.seq := by unfold last17; rw [List.getLast?_append]; rfl
theorem last_low17 {n : Int} {xs : List (Nat × List UInt8)} {E : Nat} {L : List B17} {i j : Nat} {p : List UInt8} (h : xs[i]? = some (j, p)) (hf : (parse17 p n).2 = 0) (hs : (parse17 p n).1.seq ≤ last17 L) : on17 n xs E L i = (L.map B17.p, j) := by
  unfold last17 at hs
  cases hl : L.getLast? with
  | none =>
    rw [hl] at hs
    have h1 := parse_seq17 hf
    have h2 : (parse17 p n).1.seq ≤ 0 := hs
    omega
  | some c =>
    rw [hl] at hs
    exact on_low17 h hf hl hs
theorem last_next17 {n : Int} {xs : List (Nat × List UInt8)} {E : Nat} {L : List B17} {i j : Nat} {p : List UInt8} (h : xs[i]? = some (j, p)) (hf : (parse17 p n).2 = 0) {b : B17} (hb : b.p = (parse17 p n).1) (hs : ¬ (parse17 p n).1.seq ≤ last17 L) : on17 n xs E L i = on17 n xs E (L ++ [b]) (i + 1) := by
  refine on_next17 h hf hb (fun c hc hle => hs ?_)
  unfold last17
  rw [hc]
  exact hle

theorem facts_odd17 {A B : World} {D : Nat} {v : Value} {l : List F9} (h : RdE EF A v l) (ht : Turn (odd D A) A B) : RdE EF B v l := by
  refine h.keep17 ht (fun hne k hk hlt => ?_)
  rintro ⟨_, o, ho, hf⟩
  obtain ⟨a, c, rfl⟩ := h.shape
  cases hl : l with
  | nil => exact absurd hl hne
  | cons f r =>
    obtain ⟨ad, hA, hc⟩ := fact_at h (j := 0) (f := f) (by rw [hl]; rfl)
    subst hA
    obtain ⟨o', ho', hf'⟩ := cells_of_cell (hc A (Turn.refl _ A)).1
    have e2 : ad.block = k := by simpa [Value.ownBlock] using hk
    rw [eadd_block, e2, ho] at ho'
    cases ho'
    rw [hf] at hf'
    cases hf'
theorem off_odd17 {A B : World} {D : Nat} {x : Value} {L : List B17} (h : Off17 A x L) (ht : Turn (odd D A) A B) : Off17 B x L := fun b hb =>
  ⟨facts_odd17 (h b hb).1 ht, fun hne k hk _ => (h b hb).2 hne k hk (off_lt17 (h b hb).1 hne hk)⟩

/-- What the rounds have laid: the captured variables' boxes, the row of batches. -/
structure Rp17 (w5 : World) (g : Nat) (n : Int) (v : Value) (s : Int) (m : Nat) (L : List B17) (V : World) : Prop where
  bd : Box V g 3 #[.int .i64 n]
  bl : Box V (g + 1) 26 #[v]
  bs : Box V (g + 2) 2 #[.int .i64 s]
  bn : Box V (g + 3) 3 #[.int .i64 (m : Int)]
  own : OwE EB17 50 V v L
  new : ∀ k, v.ownBlock = some k → w5.heap.size ≤ k
  off : Off17 V v L
  turn : Turn (fun k => k = g + 1 ∨ k = g + 2 ∨ k = g + 3) w5 V
theorem Rp17.odd {w5 A B : World} {g D : Nat} {n s : Int} {v : Value} {m : Nat} {L : List B17} (h : Rp17 w5 g n v s m L A) (hD : w5.heap.size ≤ D) (ht : Turn (odd D A) A B) : Rp17 w5 g n v s m L B :=
  ⟨h.bd.odd ht, h.bl.odd ht, h.bs.odd ht, h.bn.odd ht, holds_own (E := EB17) (e := 50) D (fun _ : Unit => v) (fun _ => L) () A B h.own ht, h.new, off_odd17 h.off ht, h.turn.trans ht (fun k hk e => by have := e.1; omega)⟩
theorem Rp17.later {w5 A B : World} {g : Nat} {n s : Int} {v : Value} {m : Nat} {L : List B17} (h : Rp17 w5 g n v s m L A) (ht : Turn (fun _ => False) A B) : Rp17 w5 g n v s m L B :=
  ⟨h.bd.turn ht (fun f => f), h.bl.turn ht (fun f => f), h.bs.turn ht (fun f => f), h.bn.turn ht (fun f => f), h.own.later ht, h.new, h.off.later ht, h.turn.trans ht (fun _ _ f => f.elim)⟩
def RpI17 (w5 : World) (g : Nat) (n : Int) (d : List UInt8) (xs : List (Nat × List UInt8)) (E : Nat) (pre : List Fr) (V : World) : Prop :=
  ∃ v s L, Rp17 w5 g n v s (endOf 0 (pre.map (·.1))) L V ∧ L.length ≤ pre.length ∧ s = last17 L ∧ replay17 d n = on17 n xs E L pre.length
def RpX17 (w5 : World) (g : Nat) (n : Int) (d : List UInt8) (c : Code) (_ : List Fr) (V : World) : Prop :=
  c = .exit 0 ∧ ∃ v s L, ∃ m : Nat, Rp17 w5 g n v s m L V ∧ replay17 d n = (L.map B17.p, m)
theorem holds_rp17 {w5 : World} {g D : Nat} {n : Int} {d : List UInt8} {xs : List (Nat × List UInt8)} {E : Nat} (hD : w5.heap.size ≤ D) : Holds D (RpI17 w5 g n d xs E) := fun pre A B hs ht => by
  obtain ⟨v, s, L, h1, h2⟩ := hs
  exact ⟨v, s, L, h1.odd hD ht, h2⟩
theorem holds_rx17 {w5 : World} {g D : Nat} {n : Int} {d : List UInt8} (hD : w5.heap.size ≤ D) (c : Code) : Holds D (RpX17 w5 g n d c) := fun pre A B hs ht => by
  obtain ⟨h0, v, s, L, m, h1, h2⟩ := hs
  exact ⟨h0, v, s, L, m, h1.odd hD ht, h2⟩

end Go.Proofs.Ytgchfckmhibeaaa

/-
  Stage 17: the program's Replay, walked.
-/
namespace Go.Proofs.Ytgchfckmhibeaaa
open Go.RowKit Go.Shelf
attribute [local go_sem] Oper.semAt_some wide_fn

set_option maxRecDepth 100000

/-- Facts, of six cells each, lie in no box of one cell. -/
theorem facts_far17 {W : World} {g : Nat} {t : TypeId} {x sl : Value} {f : List F9} (h : RdE EF W sl f) (hne : f ≠ []) (hb : Box W g t #[x]) : sl.ownBlock ≠ some g := by
  intro e
  obtain ⟨a, c, rfl⟩ := h.shape
  cases hl : f with
  | nil => exact hne hl
  | cons y r =>
    obtain ⟨ad, hA, hc⟩ := fact_at6 h (j := 0) (f := y) (by rw [hl]; rfl)
    subst hA
    have h1 := (hc W (Turn.refl _ W)).2.1
    have e2 : ad.block = g := by simpa [Value.ownBlock] using e
    rw [eadd_block, e2, hb.cell] at h1
    simp at h1
theorem Off17.set {W W' : World} {g : Nat} {t : TypeId} {x y : Value} {L : List B17} (h : Off17 W x L) (hb : Box W g t #[y]) (ht : Turn (fun k => k = g) W W') : Off17 W' x L := fun b hm => by
  obtain ⟨h1, h2⟩ := h b hm
  exact ⟨h1.keep17 ht (fun hne k hk _ e => facts_far17 h1 hne hb (e ▸ hk)), fun hne k hk _ => h2 hne k hk (off_lt17 h1 hne hk)⟩
section
variable {w5 V w6 : World} {g : Nat} {n s : Int} {v : Value} {m : Nat} {L : List B17}
theorem Rp17.away (h : Rp17 w5 g n v s m L V) : v.ownBlock ≠ some g ∧ v.ownBlock ≠ some (g + 1) ∧ v.ownBlock ≠ some (g + 2) ∧ v.ownBlock ≠ some (g + 3) :=
  ⟨h.own.not_box h.bd (by decide), h.own.not_box h.bl (by decide), h.own.not_box h.bs (by decide), h.own.not_box h.bn (by decide)⟩
theorem Rp17.app {b : B17} {A2 : Option Addr} {n2 c2 : Nat} (h : Rp17 w5 g n v s m L V) (hr : RdE EF V b.sl b.f) (hn : b.f ≠ [] → ∀ k, b.sl.ownBlock = some k → v.ownBlock ≠ some k) (ho : OwE EB17 50 w6 (.slice A2 n2 c2) (L ++ [b])) (ht : Turn (fun k => v.ownBlock = some k) V w6)
    (hc : (Value.slice A2 n2 c2).ownBlock = v.ownBlock ∨ (Value.slice A2 n2 c2).ownBlock = some V.heap.size) : Box w6 (g + 1) 26 #[v] ∧ KeepsOthers V w6 ∧ (∀ k, v.ownBlock = some k → w5.heap.size ≤ k) ∧ Rp17 w5 g n (.slice A2 n2 c2) s m (L ++ [b]) (w6.setCell ⟨g + 1, 0, none⟩ (.slice A2 n2 c2)) := by
  obtain ⟨a0, a1, a2, a3⟩ := h.away
  have b1 := h.bl.turn ht a1
  have b0 := h.bd.turn ht a0
  have b2 := h.bs.turn ht a2
  have b3 := h.bn.turn ht a3
  have hs : Turn (fun k => k = g + 1) w6 (w6.setCell ⟨g + 1, 0, none⟩ (.slice A2 n2 c2)) := Turn.setCell (S := fun k => k = g + 1) (p := ⟨g + 1, 0, none⟩) (Turn.refl _ w6) (fun _ => rfl) _
  have hoff := h.off.step hr hn ht hc
  refine ⟨b1, keeps_turn ht (fun k hk o hok => own_cells h.own hk o hok), h.new, b0.turn hs (by omega), b1.set 0 _, b2.turn hs (by omega), b3.turn hs (by omega), ho.turn hs (fun k hk e => ho.not_box b1 (by decide) (by rw [hk, e])), fun k hk => ?_, hoff.set b1 hs, ?_⟩
  · rcases hc with e | e
    · exact h.new k (by rw [← e]; exact hk)
    · rw [hk] at e
      injection e with e
      rw [e]
      exact h.turn.size
  · exact (h.turn.trans ht (fun k hk e => by have := h.new k e; omega)).trans hs (fun k _ e => .inl e)
theorem Rp17.seq (h : Rp17 w5 g n v s m L V) (x : Int) : Rp17 w5 g n v x m L (V.setCell ⟨g + 2, 0, none⟩ (.int .i64 x)) := by
  have hs : Turn (fun k => k = g + 2) V (V.setCell ⟨g + 2, 0, none⟩ (.int .i64 x)) := Turn.setCell (S := fun k => k = g + 2) (p := ⟨g + 2, 0, none⟩) (Turn.refl _ V) (fun _ => rfl) _
  exact ⟨h.bd.turn hs (by omega), h.bl.turn hs (by omega), h.bs.set 0 _, h.bn.turn hs (by omega), h.own.turn hs (fun k hk e => h.away.2.2.1 (by rw [hk, e])), h.new, h.off.set h.bs hs, h.turn.trans hs (fun k _ e => .inr (.inl e))⟩
theorem Rp17.end_ (h : Rp17 w5 g n v s m L V) (x : Nat) : Rp17 w5 g n v s x L (V.setCell ⟨g + 3, 0, none⟩ (.int .i64 (x : Int))) := by
  have hs : Turn (fun k => k = g + 3) V (V.setCell ⟨g + 3, 0, none⟩ (.int .i64 (x : Int))) := Turn.setCell (S := fun k => k = g + 3) (p := ⟨g + 3, 0, none⟩) (Turn.refl _ V) (fun _ => rfl) _
  exact ⟨h.bd.turn hs (by omega), h.bl.turn hs (by omega), h.bs.turn hs (by omega), h.bn.set 0 _, h.own.turn hs (fun k hk e => h.away.2.2.2 (by rw [hk, e])), h.new, h.off.set h.bn hs, h.turn.trans hs (fun k _ e => .inr (.inr e))⟩
end

set_option maxHeartbeats 8000000 in
theorem replay_any17 (u : Value) (d : List UInt8) (n : Int) (w : World) (hv : Rd w u d) (hl : d.length ≤ 900000) : Calls Try.prog 8 #[u, .int .i64 n] w fun e w' => Replayed17 w (replay17 d n) e w' := by
  obtain ⟨A, c, rfl⟩ := hv.shape
  obtain ⟨g, hg⟩ : ∃ g : Nat, g = w.heap.size := ⟨_, rfl⟩
  obtain ⟨w4, hw4⟩ : ∃ w4, w4 = (((w.alloc (.cells #[.int .i64 n] 3)).alloc (.cells #[.slice none 0 0] 26)).alloc (.cells #[.int .i64 0] 2)).alloc (.cells #[.int .i64 0] 3) := ⟨_, rfl⟩
  have HT4 : Hid (Turn (fun _ => False) w w4) := by rw [hw4]; exact ((((Turn.refl _ w).alloc _).alloc _).alloc _).alloc _
  have HB4 : Hid (Box w4 g 3 #[.int .i64 n] ∧ Box w4 (g + 1) 26 #[.slice none 0 0] ∧ Box w4 (g + 2) 2 #[.int .i64 0] ∧ Box w4 (g + 3) 3 #[.int .i64 0]) := by
    have h0 := Box.new w 3 #[.int .i64 n]
    have h1 := Box.new (w.alloc (.cells #[.int .i64 n] 3)) 26 #[.slice none 0 0]
    have h2 := Box.new ((w.alloc (.cells #[.int .i64 n] 3)).alloc (.cells #[.slice none 0 0] 26)) 2 #[.int .i64 0]
    have h3 := Box.new (((w.alloc (.cells #[.int .i64 n] 3)).alloc (.cells #[.slice none 0 0] 26)).alloc (.cells #[.int .i64 0] 2)) 3 #[.int .i64 0]
    simp only [World.size_alloc] at h1 h2 h3
    rw [hw4, hg]
    exact ⟨((h0.alloc _).alloc _).alloc _, (h1.alloc _).alloc _, h2.alloc _, h3⟩
  have HV4 := Lib.hid (hv.later HT4.out)
  have HG := Lib.hid hg; have HW4 := Lib.hid hw4
  have HSPEC : Hid (replay17 d n = on17 n (allOf d) (endOf 0 (allOf d)) [] 0) := rfl
  clear hv hg hw4
  refine (callsIn_wide (n := 5)).1 ?_
  refine callsIn_of_wp_marks Try.func8 rfl trivial ?_ rfl
  simp only [Try.ntmps8, List.size_toArray, List.length_cons, List.length_nil, Nat.reduceAdd, Nat.reduceSub, Array.replicate_succ, Array.replicate_zero, List.push_toArray, List.append_toArray, List.nil_append, List.cons_append]
  refine wpIn_wide.2 ?_
  go_wp2
  go_step3
  go_wp2
  go_step3
  go_wp2_with fail
  rw [← HW4.out, ← HG.out]
  refine (each_any _ d w4 HV4.out (by omega)).mono ?_
  rintro e w5 ⟨q, u5, rfl, hq, hu, t5, hqs, hus⟩
  have HQ := Lib.hid hq; have HU := Lib.hid hu; have HT5 := Lib.hid t5; have HQS := Lib.hid hqs; have HUS := Lib.hid hus
  have H5 : Hid (Rp17 w5 g n (.slice none 0 0) 0 0 [] w5) := ⟨HB4.out.1.turn t5 (fun f => f), HB4.out.2.1.turn t5 (fun f => f), HB4.out.2.2.1.turn t5 (fun f => f), HB4.out.2.2.2.turn t5 (fun f => f), OwE.nil _, (fun k e => by simp [Value.ownBlock] at e), Off17.nil _ _, Turn.refl _ _⟩
  have HG4 : Hid (g + 3 < w4.heap.size) := HB4.out.2.2.2.lt
  have HTW : Hid (Turn (fun _ => False) w w5) := HT4.out.trans t5 (fun _ _ f => f)
  clear hq hu t5 hqs hus HV4 HB4 HW4
  go_wp2_with fail
  refine (wpIn_wide (n := 5)).1 ?_
  refine' over (n := 5) (by omega) (gf := 42) (lb := #[.pointer (some ⟨q, 0, none⟩)]) rfl (enters_of Try.func42 (by kernel_rfl) rfl)
    (frames_give 4 (by omega) q u5 d w5 HQ.out HU.out.rd (by omega) (fun k => (k = g + 1 ∨ k = g + 2 ∨ k = g + 3) ∨ w5.heap.size ≤ k) ?hq ?hu) (Turn.refl _ _) (fun k h => .inr h) (fun pre => frGv_holds _ d pre) (fun _ => rfl)
    (RpI17 w5 g n d (allOf d) (endOf 0 (allOf d))) (RpX17 w5 g n d) (holds_rp17 (Nat.le_refl _)) (fun c => holds_rx17 (Nat.le_refl _) c) ⟨_, _, [], H5.out, Nat.le_refl _, rfl, HSPEC.out⟩ _ ?assign ?body ?done ?stop
  case hq =>
    have := HQS.out; have := HQ.out.lt; have := HG4.out
    omega
  case hu =>
    intro k hk
    have := HUS.out k hk; have := HU.out.lt hk; have := HG4.out
    omega
  case assign =>
    intro l0 x W K hK
    have HK := Lib.hid hK; clear hK
    gi_wp2
    exact HK.out
  case stop =>
    rintro D c0 pre V hD _ ⟨rfl, v, s, L, m, hrp, hsp⟩ hK
    refine wpIn_wide.2 ?_
    have c1 : V.cell? ⟨g + 1, 0, none⟩ = some v := hrp.bl.cell 0
    have c3 : V.cell? ⟨g + 1 + 1 + 1, 0, none⟩ = some (.int .i64 (m : Int)) := hrp.bn.cell 0
    obtain ⟨A9, c9, rfl⟩ := hrp.own.shape
    have HRP := Lib.hid hrp; have HSP := Lib.hid hsp; have HKD := Lib.hid hK; have HDD := Lib.hid hD
    clear hrp hsp hK hD
    go_wp2_with fail
    go_quiet (fail)
    go_wp2
    have k1 : (V.drewN nq).heap[D]? = some (.deferred (some [])) := HKD.out
    have hrp9 := (HRP.out.later ((Turn.refl (fun _ => False) V).drewN nq)).odd (D := w5.heap.size) (Nat.le_refl _) (Turn.putObj (V.drewN nq) D (.deferred none) ⟨HDD.out, _, k1, rfl⟩)
    refine ⟨by simp, .inl ⟨_, _, rfl, run_takeDeferred k1, ?_⟩⟩
    refine ⟨.tuple #[.slice A9 L.length c9, .int .i64 (m : Int)], ?_, ?_⟩
    · simp [results, Try.f8, go_sem]
    · exact ⟨_, L, by rw [HSP.out], by rw [HSP.out], off_rd17 hrp9.off hrp9.own.rd, HTW.out.trans hrp9.turn (fun k hk e => by have := HG.out; omega)⟩
  case body =>
    rintro l0 pre x V ⟨v, s, L, hrp, hlen, hs, hsp⟩ ⟨hr, hpre⟩
    obtain ⟨⟨j, p⟩, ⟨Au, cu⟩⟩ := x
    dsimp only at hr
    rw [List.map_append] at hpre
    have hat : (allOf d)[pre.length]? = some (j, p) := by
      have h := (pre_at10 hpre).1
      rw [List.length_map] at h
      exact h
    obtain ⟨hj, hjz⟩ := all_at17 _ _ _ _ _ hpre
    dsimp only at hj hjz
    rw [← hj] at hrp
    have HEX : Hid (endOf 0 ((pre ++ [(((j, p), (Au, cu)) : Fr)]).map (·.1)) = j + sz p.length) := by show _ = _; rw [List.map_append]; exact ends_snoc_at17 _ _ _
    have HPL : Hid ((pre ++ [(((j, p), (Au, cu)) : Fr)]).length = pre.length + 1) := by show _ = _; rw [List.length_append]; rfl
    have hpz : p.length ≤ 900000 ∧ j + sz p.length ≤ 900000 := by unfold sz at hjz ⊢; omega
    obtain ⟨hp9, hj9⟩ := hpz
    obtain ⟨A9, c9, rfl⟩ := hrp.own.shape
    have c0 : V.cell? ⟨g, 0, none⟩ = some (.int .i64 n) := hrp.bd.cell 0
    have HPA := Lib.hid (parse_any17 _ p n V hr (by omega))
    have HRP := Lib.hid hrp; have HLN := Lib.hid hlen; have HS := Lib.hid hs; have HSP := Lib.hid hsp; have HAT := Lib.hid hat
    have HOL : Hid (∀ k, (Value.slice A9 L.length c9).ownBlock = some k → k < V.heap.size) := fun k hk => hrp.own.lt hk
    clear hr hpre hrp hlen hs hsp hat hj hjz
    obtain ⟨P, hP⟩ : ∃ P, P = p.length := ⟨_, rfl⟩
    obtain ⟨z, hz⟩ : ∃ z, z = sz P := ⟨_, rfl⟩
    rw [← hP] at hp9 HPA hj9 HEX ⊢
    rw [← hz] at hj9 HEX
    have HZ := Lib.hid hz
    clear hP hz
    unfold Parsed17 at HPA
    gi_wp2_with fail
    refine (CallsIn.inRound l0 (callsIn_wide.2 HPA.out)).mono ?_
    rintro e wp ⟨b, rfl, hbp, rb, tb, nb⟩
    obtain ⟨sq, tk, bd, A3, c3, fs⟩ := b
    dsimp only [B17.sl, B17.p] at hbp rb nb ⊢
    obtain ⟨q2, hq2⟩ : ∃ q2, q2 = wp.heap.size := ⟨_, rfl⟩
    have HBP := Lib.hid hbp; have HRB := Lib.hid rb; have HTB := Lib.hid tb; have HNB := Lib.hid nb
    have y0 : (wp.alloc (.cells #[.int .i64 sq, .int .i64 tk, .int .i64 bd, .slice A3 fs.length c3] 50)).cell? ⟨wp.heap.size, 0, none⟩ = some (.int .i64 sq) := (Box.new wp 50 #[.int .i64 sq, .int .i64 tk, .int .i64 bd, .slice A3 fs.length c3]).cell 0
    have HR1 := Lib.hid ((HRP.out.later tb).later ((Turn.refl (fun _ => False) wp).alloc (.cells #[.int .i64 sq, .int .i64 tk, .int .i64 bd, .slice A3 fs.length c3] 50)))
    have HT1 : Hid (Turn (fun _ => False) V (wp.alloc (.cells #[.int .i64 sq, .int .i64 tk, .int .i64 bd, .slice A3 fs.length c3] 50))) := tb.alloc _
    have z2 : (wp.alloc (.cells #[.int .i64 sq, .int .i64 tk, .int .i64 bd, .slice A3 fs.length c3] 50)).cell? ⟨g + 1 + 1, 0, none⟩ = some (.int .i64 s) := HR1.out.bs.cell 0
    have HSQ : Hid (sq = (parse17 p n).1.seq) := congrArg P17.seq hbp
    clear hbp rb tb nb c0 HPA
    by_cases hf : (parse17 p n).2 = 0
    · by_cases hle : sq ≤ s
      · have HND : Hid (replay17 d n = (L.map B17.p, j)) := by show _ = _; rw [HSP.out]; exact last_low17 HAT.out hf (by rw [← HSQ.out, ← HS.out]; exact hle)
        rw [hf]
        clear hf
        gi_wp2
        exact ⟨KeepsOthers.turned HT1.out, rfl, _, s, L, j, HR1.out, HND.out⟩
      · have HNX : Hid (replay17 d n = on17 n (allOf d) (endOf 0 (allOf d)) (L ++ [(⟨sq, tk, bd, A3, c3, fs⟩ : B17)]) (pre.length + 1)) := by show _ = _; rw [HSP.out]; exact last_next17 HAT.out hf HBP.out (by rw [← HSQ.out, ← HS.out]; exact hle)
        rw [hf]
        clear hf
        obtain ⟨B, hB⟩ : ∃ B : Obj, B = .cells #[.int .i64 sq, .int .i64 tk, .int .i64 bd, .slice A3 fs.length c3] 50 := ⟨_, rfl⟩
        have hbx := Box.new wp 50 #[.int .i64 sq, .int .i64 tk, .int .i64 bd, .slice A3 fs.length c3]
        have y1 : (wp.alloc (.cells #[.int .i64 sq, .int .i64 tk, .int .i64 bd, .slice A3 fs.length c3] 50)).cell? ⟨wp.heap.size, 1, none⟩ = some (.int .i64 tk) := hbx.cell 1
        have y2 : (wp.alloc (.cells #[.int .i64 sq, .int .i64 tk, .int .i64 bd, .slice A3 fs.length c3] 50)).cell? ⟨wp.heap.size, 2, none⟩ = some (.int .i64 bd) := hbx.cell 2
        have y3 : (wp.alloc (.cells #[.int .i64 sq, .int .i64 tk, .int .i64 bd, .slice A3 fs.length c3] 50)).cell? ⟨wp.heap.size, 3, none⟩ = some (.slice A3 fs.length c3) := hbx.cell 3
        have z1 : (wp.alloc (.cells #[.int .i64 sq, .int .i64 tk, .int .i64 bd, .slice A3 fs.length c3] 50)).cell? ⟨g + 1, 0, none⟩ = some (.slice A9 L.length c9) := HR1.out.bl.cell 0
        have HSR : Hid (Src Try.prog EB17.sz 26 (.slice (some ⟨wp.heap.size + 1, 0, none⟩) 1 1) 1 (EB17.flat [(⟨sq, tk, bd, A3, c3, fs⟩ : B17)]) ((wp.alloc (.cells #[.int .i64 sq, .int .i64 tk, .int .i64 bd, .slice A3 fs.length c3] 50)).alloc (.cells #[.int .i64 sq, .int .i64 tk, .int .i64 bd, .slice A3 fs.length c3] 50))) :=
          by
            have h := (one_row EB17 50 (wp.alloc (.cells #[.int .i64 sq, .int .i64 tk, .int .i64 bd, .slice A3 fs.length c3] 50)) ⟨sq, tk, bd, A3, c3, fs⟩).src Try.underlying26
            rw [World.size_alloc] at h
            exact h
        have HBXQ : Hid (Box ((wp.alloc (.cells #[.int .i64 sq, .int .i64 tk, .int .i64 bd, .slice A3 fs.length c3] 50)).alloc (.cells #[.int .i64 sq, .int .i64 tk, .int .i64 bd, .slice A3 fs.length c3] 50)) wp.heap.size 50 #[.int .i64 sq, .int .i64 tk, .int .i64 bd, .slice A3 fs.length c3]) := hbx.alloc _
        have HR2 := Lib.hid (HR1.out.later ((Turn.refl (fun _ => False) (wp.alloc (.cells #[.int .i64 sq, .int .i64 tk, .int .i64 bd, .slice A3 fs.length c3] 50))).alloc (.cells #[.int .i64 sq, .int .i64 tk, .int .i64 bd, .slice A3 fs.length c3] 50)))
        have HT2 := Lib.hid (HT1.out.alloc (.cells #[.int .i64 sq, .int .i64 tk, .int .i64 bd, .slice A3 fs.length c3] 50))
        have HRB2 : Hid (RdE EF ((wp.alloc (.cells #[.int .i64 sq, .int .i64 tk, .int .i64 bd, .slice A3 fs.length c3] 50)).alloc (.cells #[.int .i64 sq, .int .i64 tk, .int .i64 bd, .slice A3 fs.length c3] 50)) (.slice A3 fs.length c3) fs) := HRB.out.later (((Turn.refl _ wp).alloc _).alloc _)
        have HVW : Hid (V.heap.size ≤ wp.heap.size) := HTB.out.size
        have HGQ : Hid (g + 3 < wp.heap.size) := by show _ < _; have h1 := HRP.out.bn.lt; have h2 := HVW.out; omega
        have HLB : Hid (L.length + 1 ≤ 900001) := by
          show _ ≤ _
          have h1 := HLN.out
          have h2 := (List.getElem?_eq_some_iff.1 HAT.out).1
          have h3 := allF_le17 (d.length + 1) 0 d
          unfold allOf at h2
          omega
        clear hB B hbx
        gi_wp2_with (gi_at_builtin; refine halt ?_)
        show wpListIn _ _ _ _ _ _ _ _
        refine wpListIn_appE Try.underlying26 walb_info17 bat_zero17 _ rfl _ _ _ rfl _ L rfl HR2.out.own _ rfl [(⟨sq, tk, bd, A3, c3, fs⟩ : B17)] HSR.out (by have := HLB.out; simp only [maxLen, List.length_cons, List.length_nil]; omega) (by have := HLB.out; simp only [List.length_cons, List.length_nil]; omega) ?_
        intro A5 n5 c5 w6 ho ht hc
        obtain ⟨hb1, hk6, -, hr6⟩ := HR2.out.app (b := ⟨sq, tk, bd, A3, c3, fs⟩) HRB2.out (fun hne k hk e => by have h1 := HNB.out k hk; have h2 := HOL.out k e; omega) ho ht hc
        have f1 := hb1.free 0
        have g1 := hb1.cell 0
        have HK6 := Lib.hid hk6
        have HR6 := Lib.hid hr6
        have g2 : (w6.setCell ⟨g + 1, 0, none⟩ (.slice A5 n5 c5)).cell? ⟨g + 1 + 1, 0, none⟩ = some (.int .i64 s) := hr6.bs.cell 0
        have f2 : (w6.setCell ⟨g + 1, 0, none⟩ (.slice A5 n5 c5)).frozen? ⟨g + 1 + 1, 0, none⟩ = false := hr6.bs.free 0
        have y6 := ((HBXQ.out.turn ht (fun e => by have h1 := HOL.out _ e; have h2 := HVW.out; omega)).far (p := ⟨g + 1, 0, none⟩) (by show wp.heap.size ≠ g + 1; have := HGQ.out; omega) (.slice A5 n5 c5)).cell 0
        have HT6 := Lib.hid ht
        clear ho ht hc hb1 hk6 hr6
        gi_wp2_with fail
        have HR7 := Lib.hid (HR6.out.seq sq)
        refine (CallsIn.inRound l0 (callsIn_wide.2 (size_any P _ (by omega)))).mono ?_
        rintro e w7 ⟨rfl, t7⟩
        rw [← HZ.out]
        have HT7 := Lib.hid t7
        have HR8 := Lib.hid (HR7.out.later t7)
        have g3 : w7.cell? ⟨g + 1 + 1 + 1, 0, none⟩ = some (.int .i64 (j : Int)) := HR8.out.bn.cell 0
        have f3 : w7.frozen? ⟨g + 1 + 1 + 1, 0, none⟩ = false := HR8.out.bn.free 0
        clear t7 f1 f2 g1 g2 y0 y1 y2 y3 y6 z1 z2
        gi_wp2_with fail
        have hr9 := HR8.out.end_ (j + z)
        rw [Int.natCast_add] at hr9
        have hkk : KeepsOthers V (w7.setCell ⟨g + 1 + 1 + 1, 0, none⟩ (.int .i64 ((j : Int) + (z : Int)))) := ((((KeepsOthers.turned HT2.out).trans HK6.out).trans (KeepsOthers.setCell _ _ _)).trans (KeepsOthers.setCell _ _ _)).trans ((KeepsOthers.turned HT7.out).trans (KeepsOthers.setCell _ _ _))
        have htt : Turn (fun k => (k = g + 1 ∨ k = g + 2 ∨ k = g + 3) ∨ w5.heap.size ≤ k) V (w7.setCell ⟨g + 1 + 1 + 1, 0, none⟩ (.int .i64 ((j : Int) + (z : Int)))) :=
          (((((HT2.out.none.trans HT6.out (fun k _ e => .inr (HRP.out.new k e))).setCell (p := ⟨g + 1, 0, none⟩) (fun _ => .inl (.inl rfl)) _).setCell (p := ⟨g + 1 + 1, 0, none⟩) (fun _ => .inl (.inr (.inl rfl))) _).trans HT7.out (fun _ _ f => f.elim)).setCell (p := ⟨g + 1 + 1 + 1, 0, none⟩) (fun _ => .inl (.inr (.inr rfl))) _)
        refine ⟨hkk, htt, _, sq, L ++ [(⟨sq, tk, bd, A3, c3, fs⟩ : B17)], by rw [HEX.out]; exact hr9, ?_, (last_snoc17 L ⟨sq, tk, bd, A3, c3, fs⟩).symm, by rw [HPL.out]; exact HNX.out⟩
        rw [HPL.out, List.length_append, List.length_singleton]
        exact Nat.succ_le_succ HLN.out
    · have HND : Hid (replay17 d n = (L.map B17.p, j)) := by show _ = _; rw [HSP.out]; exact on_bad17 HAT.out hf
      have hf2 : ((parse17 p n).2 == 0) = false := by rw [beq_eq_false_iff_ne]; exact hf
      have hf3 : ((parse17 p n).2 != 0) = true := by rw [bne_iff_ne]; exact hf
      clear hf
      generalize (parse17 p n).2 = f at *
      gi_wp2
      exact ⟨KeepsOthers.turned HT1.out, rfl, _, s, L, j, HR1.out, HND.out⟩
  case done =>
    rintro D xs V hD hA ⟨v, s, L, hrp, hlen, hs, hsp⟩ hK
    obtain ⟨m, hm⟩ : ∃ m, m = endOf 0 (xs.map (·.1)) := ⟨_, rfl⟩
    rw [← hm] at hrp
    have hA2 : xs.map (·.1) = allOf d := hA
    have hsp : replay17 d n = (L.map B17.p, m) := by
      rw [hsp, hm, hA2]
      exact on_end17 (by rw [← hA2, List.length_map]; exact Nat.le_refl _)
    clear hm hA hA2 hlen hs
    have c1 : V.cell? ⟨g + 1, 0, none⟩ = some v := hrp.bl.cell 0
    have c3 : V.cell? ⟨g + 1 + 1 + 1, 0, none⟩ = some (.int .i64 (m : Int)) := hrp.bn.cell 0
    obtain ⟨A9, c9, rfl⟩ := hrp.own.shape
    have HRP := Lib.hid hrp; have HSP := Lib.hid hsp; have HKD := Lib.hid hK; have HDD := Lib.hid hD
    clear hrp hsp hK hD
    go_wp2_with fail
    go_quiet (fail)
    go_wp2
    have k1 : (V.drewN nq).heap[D]? = some (.deferred (some [])) := HKD.out
    have hrp9 := (HRP.out.later ((Turn.refl (fun _ => False) V).drewN nq)).odd (D := w5.heap.size) (Nat.le_refl _) (Turn.putObj (V.drewN nq) D (.deferred none) ⟨HDD.out, _, k1, rfl⟩)
    refine ⟨by simp, .inl ⟨_, _, rfl, run_takeDeferred k1, ?_⟩⟩
    refine ⟨.tuple #[.slice A9 L.length c9, .int .i64 (m : Int)], ?_, ?_⟩
    · simp [results, Try.f8, go_sem]
    · exact ⟨_, L, by rw [HSP.out], by rw [HSP.out], off_rd17 hrp9.off hrp9.own.rd, HTW.out.trans hrp9.turn (fun k hk e => by have := HG.out; omega)⟩

end Go.Proofs.Ytgchfckmhibeaaa

/-
  Stage 17: the program's within, Bytes, Facts.
-/
namespace Go.Proofs.Ytgchfckmhibeaaa
open Go.RowKit

set_option maxRecDepth 100000

/-- The closure that tells facts of some hours. -/
abbrev goes17 (q1 q2 : Nat) : Value := .func (.func 56) #[] #[.pointer (some ⟨q1, 0, none⟩), .pointer (some ⟨q2, 0, none⟩)]
theorem within_any17 (lo hi : Int) (w : World) : Calls Try.prog 32 #[.int .i64 lo, .int .i64 hi] w fun e w' => ∃ q1 q2, e = .returned (goes17 q1 q2) ∧ Box w' q1 2 #[.int .i64 lo] ∧ Box w' q2 2 #[.int .i64 hi] ∧ Turn (fun _ => False) w w' ∧ w.heap.size ≤ q1 ∧ w.heap.size ≤ q2 := by
  have h1 := (Box.new w 2 #[.int .i64 lo]).alloc (.cells #[.int .i64 hi] 2)
  have h2 := Box.new (w.alloc (.cells #[.int .i64 lo] 2)) 2 #[.int .i64 hi]
  rw [World.size_alloc] at h2
  have H1 := Lib.hid h1; have H2 := Lib.hid h2
  clear h1 h2
  go_enter Try.func32, Try.ntmps32
  go_wp2
  go_ret
  exact ⟨_, _, rfl, H1.out, H2.out, ((Turn.refl _ w).alloc _).alloc _, Nat.le_refl _, Nat.le_succ _⟩
theorem goes_any17 {q1 q2 : Nat} {lo hi : Int} {W : World} (f : F9) (hb1 : Box W q1 2 #[.int .i64 lo]) (hb2 : Box W q2 2 #[.int .i64 hi]) :
    Calls Try.prog 56 #[fv9 f, .pointer (some ⟨q1, 0, none⟩), .pointer (some ⟨q2, 0, none⟩)] W fun e w' => e = .returned (.bool (inF17 lo hi f)) ∧ Turn (fun _ => False) W w' := by
  have c1 := (hb1.alloc (.cells #[.int .i64 f.k.h, sv9 f.k.a, sv9 f.k.b, sv9 f.k.c, sv9 f.k.d, .int .i64 f.v] 76)).cell 0
  have c2 := (hb2.alloc (.cells #[.int .i64 f.k.h, sv9 f.k.a, sv9 f.k.b, sv9 f.k.c, sv9 f.k.d, .int .i64 f.v] 76)).cell 0
  have c3 := (Box.new W 76 #[.int .i64 f.k.h, sv9 f.k.a, sv9 f.k.b, sv9 f.k.c, sv9 f.k.d, .int .i64 f.v]).cell 0
  have HT : Hid (Turn (fun _ => False) W (W.alloc (.cells #[.int .i64 f.k.h, sv9 f.k.a, sv9 f.k.b, sv9 f.k.c, sv9 f.k.d, .int .i64 f.v] 76))) := (Turn.refl _ W).alloc _
  clear hb1 hb2
  by_cases h1 : lo ≤ f.k.h
  · by_cases h2 : f.k.h < hi
    · have HB : Hid (inF17 lo hi f = true) := by show _ = _; unfold inF17; rw [decide_eq_true h1, decide_eq_true h2]; rfl
      go_enter Try.func56, Try.ntmps56
      go_wp2
      go_ret
      exact ⟨by rw [HB.out]; first | rfl | exact ret_bool (decide_eq_true (by omega)), HT.out⟩
    · have HB : Hid (inF17 lo hi f = false) := by show _ = _; unfold inF17; rw [decide_eq_false h2, Bool.and_false]
      go_enter Try.func56, Try.ntmps56
      go_wp2
      go_ret
      exact ⟨by rw [HB.out]; first | rfl | exact ret_bool (decide_eq_false (by omega)), HT.out⟩
  · have HB : Hid (inF17 lo hi f = false) := by show _ = _; unfold inF17; rw [decide_eq_false (show ¬ f.k.h ≥ lo from h1), Bool.false_and]
    go_enter Try.func56, Try.ntmps56
    go_wp2
    go_ret
    exact ⟨by rw [HB.out]; first | rfl | exact ret_bool (decide_eq_false (by omega)), HT.out⟩

set_option maxHeartbeats 8000000 in
theorem bytes_any17 (v : Value) (L : List B17) (n : Int) (w : World) (hv : BR17 w v L) (hf : Some17 L) (hfi : ∀ b ∈ L, b.fits) : Calls Try.prog 10 #[v, .int .i64 n] w fun e w' => RecP17 w (bytes17 n (L.map B17.p)) e w' := by
  have HV := Lib.hid hv
  obtain ⟨A, c, rfl⟩ := hv.shape
  have HSPEC : Hid (bytes17 n (L.map B17.p) = comb17 [] (bytes17 n ((L.drop 0).map B17.p))) := comb_start17 _ _
  have HFW := Lib.hid (few17 hf n)
  have HFI := Lib.hid hfi
  obtain ⟨M, hM⟩ : ∃ M, M = L.length := ⟨_, rfl⟩
  have hMb : M ≤ 100 := by have := hf.1; omega
  rw [← hM]
  rw [← hM] at HV
  have HM := Lib.hid hM
  clear hv hf hM hfi
  go_enter Try.func10, Try.ntmps10
  go_wp2_with fail
  go_loopw [6, 13] (fun x6 x13 wr => ∃ (i : Nat) (acc : List UInt8), x13 = .int .i64 (i : Int) ∧ i ≤ M ∧ acc.length ≤ i * 1000000 ∧ Made w wr x6 acc ∧ bytes17 n (L.map B17.p) = comb17 acc (bytes17 n ((L.drop i).map B17.p))) (fun _ x13 _ => M - (intOf x13).toNat)
  case atStart => exact ⟨0, [], rfl, Nat.zero_le _, Nat.le_refl _, made_none17 (Turn.refl _ w), HSPEC.out⟩
  case round =>
    clear HSPEC
    obtain ⟨i, acc, rfl, hi, hla, hm, hsp⟩ := hrel
    have HMD := Lib.hid hm
    have HSP := Lib.hid hsp
    have HLA := Lib.hid hla
    obtain ⟨A6, c6, rfl⟩ := hm.1.shape
    clear hm hsp hla
    by_cases hlt : i < M
    · have hil : (i : Int) < M := by omega
      obtain ⟨b, hb⟩ : ∃ b, L[i]? = some b := ⟨_, List.getElem?_eq_getElem (by rw [← HM.out]; exact hlt)⟩
      have hbm : b ∈ L := List.mem_of_getElem? hb
      obtain ⟨ad, rfl, hc⟩ := bat_at17 HV.out.1 hb
      obtain ⟨a0, a1, a2, a3⟩ := hc wr HMD.out.2.1
      have HDR : Hid ((L.drop i).map B17.p = b.p :: (L.drop (i + 1)).map B17.p) := by show _ = _; rw [drop_at17 hb]; rfl
      have HRL : Hid ((rec17 b.p n).1.length ≤ 1000000) := rec_len17 (b := b.p) (HFW.out.2 b hbm).2
      have HSQ : Hid (bytes17 n (L.map B17.p) = comb17 acc (bytes17 n (b.p :: (L.drop (i + 1)).map B17.p))) := by show _ = _; rw [HSP.out, HDR.out]
      obtain ⟨w1, hw1⟩ : ∃ w1, w1 = wr.alloc (.cells (bcells17 b) 50) := ⟨_, rfl⟩
      have HT1 : Hid (Turn (fun _ => False) wr w1) := by rw [hw1]; exact (Turn.refl _ wr).alloc _
      have y0 := (Box.new wr 50 (bcells17 b)).cell 0; have y1 := (Box.new wr 50 (bcells17 b)).cell 1; have y2 := (Box.new wr 50 (bcells17 b)).cell 2; have y3 := (Box.new wr 50 (bcells17 b)).cell 3
      have HRC := Lib.hid (record_any17 b n w1 (((HV.out.2 b hbm).later HMD.out.2.1).later HT1.out) (HFW.out.2 b hbm).1 (HFI.out b hbm))
      have HW1 := Lib.hid hw1
      clear hb hbm hc HSP HDR hw1
      unfold RecP17 at HRC
      go_wp2_with fail
      rw [← HW1.out]
      refine HRC.out.mono ?_
      rintro e w2 ⟨v2, rfl, r2, t2⟩
      obtain ⟨A2, c2, rfl⟩ := r2.shape
      have HR2 := Lib.hid r2
      have HT2 := Lib.hid (HT1.out.trans t2 (fun _ _ f => f))
      clear r2 t2 HRC a0 a1 a2 a3 y0 y1 y2 y3
      by_cases h0 : (rec17 b.p n).2 = 0
      · have HNX : Hid (bytes17 n (L.map B17.p) = comb17 (acc ++ (rec17 b.p n).1) (bytes17 n ((L.drop (i + 1)).map B17.p))) := by show _ = _; rw [HSQ.out]; exact comb_next17 h0
        rw [h0]
        clear h0 HSQ
        generalize (rec17 b.p n).1 = R at *
        have HB2 : Hid (By w2 (.slice A6 acc.length c6) acc) := HMD.out.1.turn HT2.out (fun _ _ f => f)
        have HLC : Hid (acc.length + R.length ≤ 1000000000) := by show _ ≤ _; have := HLA.out; have := HRL.out; omega
        go_wp2_with (at_builtin; go_must (refine wpList_app _ rfl _ _ _ rfl _ acc rfl HB2.out _ rfl R HR2.out.yields HLC.out ?_))
        intro A3 n3 c3 w3 hby hg ha
        have HM3 := Lib.hid (made_more17 HMD.out HT2.out hby hg ha)
        clear hby hg ha
        go_wp2
        go_roundw
        case rel => exact ⟨i + 1, _, by go_num, hlt, by rw [List.length_append]; have := HLA.out; have := HRL.out; omega, HM3.out, HNX.out⟩
        case measure => simp [intOf]; omega
      · have HND : Hid (bytes17 n (L.map B17.p) = ([], (rec17 b.p n).2)) := by show _ = _; rw [HSQ.out]; exact comb_bad17 h0
        have h1 : ((rec17 b.p n).2 == 0) = false := by rw [beq_eq_false_iff_ne]; exact h0
        have h2 : ((rec17 b.p n).2 != 0) = true := by rw [bne_iff_ne]; exact h0
        have HTE := Lib.hid (HMD.out.2.1.trans HT2.out (fun _ _ f => f))
        clear h0 HSQ
        generalize (rec17 b.p n).2 = f at *
        go_wp2
        go_ret2
        exact ⟨.slice none 0 0, by rw [HND.out]; rfl, by rw [HND.out]; exact (By.nil _).rd, HTE.out⟩
    · obtain rfl : i = M := by omega
      have HND : Hid (bytes17 n (L.map B17.p) = (acc, 0)) := by show _ = _; rw [HSP.out, List.drop_eq_nil_of_le (Nat.le_of_eq HM.out.symm)]; exact comb_end17
      clear HSP
      go_wp2
      go_ret2
      exact ⟨_, by rw [HND.out]; rfl, by rw [HND.out]; exact HMD.out.1.rd, HMD.out.2.1⟩

set_option maxHeartbeats 8000000 in
theorem facts_any17 (v : Value) (L : List B17) (lo hi : Int) (w : World) (hv : BR17 w v L) (hf : Some17 L) : Calls Try.prog 19 #[v, .int .i64 lo, .int .i64 hi] w fun e w' => Facts9 w (facts17 (L.map B17.p) lo hi) e w' := by
  have HV := Lib.hid hv
  obtain ⟨A, c, rfl⟩ := hv.shape
  have HFW := Lib.hid hf
  obtain ⟨M, hM⟩ : ∃ M, M = L.length := ⟨_, rfl⟩
  have hMb : M ≤ 100 := by have := hf.1; omega
  rw [← hM]
  rw [← hM] at HV
  have HM := Lib.hid hM
  clear hv hf hM
  go_enter Try.func19, Try.ntmps19
  go_wp2_with fail
  refine (within_any17 lo hi w).mono ?_
  rintro e w1 ⟨q1, q2, rfl, hb1, hb2, t1, -, -⟩
  have HIS : Hid (∀ W f, Turn (fun _ => False) w1 W → Calls Try.prog 56 #[fv9 f, .pointer (some ⟨q1, 0, none⟩), .pointer (some ⟨q2, 0, none⟩)] W fun e w' => e = .returned (.bool (inF17 lo hi f)) ∧ Turn (fun _ => False) W w') := fun W f hW => goes_any17 f (hb1.turn hW (fun f => f)) (hb2.turn hW (fun f => f))
  have HT1 := Lib.hid t1
  clear hb1 hb2 t1
  go_wp2_with fail
  go_loopw [8, 18] (fun x8 x18 wr => ∃ (i : Nat) (out : List F9), x18 = .int .i64 (i : Int) ∧ i ≤ M ∧ out.length ≤ i * 1000 ∧ NewE EF 76 w1 wr x8 out ∧ out = facts17 ((L.take i).map B17.p) lo hi) (fun _ x18 _ => M - (intOf x18).toNat)
  case atStart => exact ⟨0, [], rfl, Nat.zero_le _, Nat.le_refl _, ⟨OwE.nil _, (fun k e => by simp [Value.ownBlock] at e), Turn.refl _ _⟩, rfl⟩
  case round =>
    obtain ⟨i, out, rfl, hi', hlo, hnew, hsp⟩ := hrel
    have HNW := Lib.hid hnew
    have HSP := Lib.hid hsp
    have HLO := Lib.hid hlo
    obtain ⟨A7, c7, hv7⟩ := hnew.own.shape
    subst hv7
    clear hnew hsp hlo
    by_cases hlt : i < M
    · have hil : (i : Int) < M := by omega
      obtain ⟨b, hb⟩ : ∃ b, L[i]? = some b := ⟨_, List.getElem?_eq_getElem (by rw [← HM.out]; exact hlt)⟩
      have hbm : b ∈ L := List.mem_of_getElem? hb
      obtain ⟨ad, rfl, hc⟩ := bat_at17 HV.out.1 hb
      obtain ⟨a0, a1, a2, a3⟩ := hc wr (HT1.out.trans HNW.out.turn (fun _ _ f => f))
      have HNX : Hid (facts17 ((L.take (i + 1)).map B17.p) lo hi = out ++ b.f.filter (inF17 lo hi)) := by show _ = _; rw [facts_next17 hb, HSP.out]
      have HFR : Hid (RdE EF w1 b.sl b.f) := (HV.out.2 b hbm).later HT1.out
      have hF1 := HFW.out.2 b hbm
      obtain ⟨sq, tk, bd, A3, c3, fs⟩ := b
      dsimp only [B17.sl] at a0 a1 a2 a3 HNX HFR hF1
      obtain ⟨F, hF⟩ : ∃ F, F = fs.length := ⟨_, rfl⟩
      have hFb : F ≤ 1000 := by omega
      rw [← hF] at a3 HFR
      have HF := Lib.hid hF
      have y3 : (wr.alloc (.cells #[.int .i64 sq, .int .i64 tk, .int .i64 bd, .slice A3 F c3] 50)).cell? ⟨wr.heap.size, 3, none⟩ = some (.slice A3 F c3) := (Box.new wr 50 #[.int .i64 sq, .int .i64 tk, .int .i64 bd, .slice A3 F c3]).cell 3
      have HNB := Lib.hid (HNW.out.alloc (.cells #[.int .i64 sq, .int .i64 tk, .int .i64 bd, .slice A3 F c3] 50))
      clear hb hbm hc hF hF1
      obtain ⟨O, hO⟩ : ∃ O, O = out.length := ⟨_, rfl⟩
      rw [← hO] at HNW HNB HLO ⊢
      have hOb : O ≤ 100000 := by have := HLO.out; omega
      have HO := Lib.hid hO
      clear hO
      go_wp2_with fail
      have hE0 : fs.take 0 = [] := rfl
      go_loopw [8, 25] (fun x7 x9 wk => ∃ (k : Nat) (o2 : List F9), x9 = .int .i64 (k : Int) ∧ k ≤ F ∧ o2.length ≤ O + k ∧ NewE EF 76 w1 wk x7 o2 ∧ o2 = out ++ (fs.take k).filter (inF17 lo hi)) (fun _ x9 _ => F - (intOf x9).toNat)
      case atStart => exact ⟨0, out, rfl, Nat.zero_le _, Nat.le_of_eq HO.out.symm, HNB.out, by rw [hE0]; exact (List.append_nil _).symm⟩
      case round =>
        clear HNW HNB a0 a1 a2 a3 y3
        obtain ⟨k, o2, rfl, hk, hl2, hnew, hsp⟩ := hrel
        have HNW := Lib.hid hnew
        have HS2 := Lib.hid hsp
        have HL2 := Lib.hid hl2
        obtain ⟨A8, c8, hv8⟩ := hnew.own.shape
        subst hv8
        clear hnew hsp hl2
        by_cases hlk : k < F
        · have hkl : (k : Int) < F := by omega
          obtain ⟨f, hf⟩ : ∃ f, fs[k]? = some f := ⟨_, List.getElem?_eq_getElem (by rw [← HF.out]; exact hlk)⟩
          obtain ⟨fd, rfl, hcf⟩ := fact_at6 HFR.out hf
          have HTK := Lib.hid (take_filter17 (P := inF17 lo hi) hf)
          obtain ⟨f0, f1, f2, f3, f4, f5⟩ := hcf wr HNW.out.turn
          have hbx := Box.new wr 76 #[.int .i64 f.k.h, sv9 f.k.a, sv9 f.k.b, sv9 f.k.c, sv9 f.k.d, .int .i64 f.v]
          have e0 := hbx.cell 0; have e1 := hbx.cell 1; have e2 := hbx.cell 2; have e3 := hbx.cell 3; have e4 := hbx.cell 4; have e5 := hbx.cell 5
          obtain ⟨w2, hw2⟩ : ∃ w2, w2 = wr.alloc (.cells #[.int .i64 f.k.h, sv9 f.k.a, sv9 f.k.b, sv9 f.k.c, sv9 f.k.d, .int .i64 f.v] 76) := ⟨_, rfl⟩
          have HN2 : Hid (NewE EF 76 w1 w2 (.slice A8 o2.length c8) o2) := by rw [hw2]; exact HNW.out.alloc _
          rw [← hw2] at hbx
          have HBX := Lib.hid hbx
          have HW2 := Lib.hid hw2
          clear hf hcf hbx hw2
          go_wp2_with fail
          rw [← HW2.out]
          refine (HIS.out w2 f HN2.out.turn).mono ?_
          rintro e w3 ⟨rfl, t3⟩
          have hbx := HBX.out.turn t3 (fun f => f)
          clear e0 e1 e2 e3 e4 e5 f0 f1 f2 f3 f4 f5
          have e0 := hbx.cell 0; have e1 := hbx.cell 1; have e2 := hbx.cell 2; have e3 := hbx.cell 3; have e4 := hbx.cell 4; have e5 := hbx.cell 5
          have HN3 := Lib.hid (HN2.out.later t3)
          clear hbx t3 HW2 HN2
          by_cases hin : inF17 lo hi f = true
          · have HX : Hid (o2 ++ [f] = out ++ (fs.take (k + 1)).filter (inF17 lo hi)) := by
              show _ = _
              rw [HTK.out, HS2.out, if_pos hin, List.append_assoc]
            rw [hin]
            clear hin
            have HN7 := Lib.hid (HN3.out.alloc (.cells (EF.enc f).toArray 76))
            have HSR := Lib.hid (one_row EF 76 w3 f)
            have HLM : Hid (o2.length + 1 ≤ 1000000) := by show _ ≤ _; have := HL2.out; omega
            go_wp2_with (at_builtin; refine wpList_facts9 _ rfl _ _ rfl _ _ rfl HN7.out.own _ rfl [f] HSR.out HLM.out ?_; intro A5 n5 c5 w5 ho5 ht5 hn5; have HN5 := Lib.hid (HN7.out.step ho5 ht5 hn5); clear ho5 ht5 hn5)
            go_roundw
            case rel => exact ⟨k + 1, _, by go_num, hlk, by rw [List.length_append, List.length_singleton]; have := HL2.out; omega, HN5.out, HX.out⟩
            case measure => simp [intOf]; omega
          · have HX : Hid (o2 = out ++ (fs.take (k + 1)).filter (inF17 lo hi)) := by
              show _ = _
              rw [HTK.out, HS2.out, if_neg hin, List.append_nil]
            have hin2 : inF17 lo hi f = false := by simpa using hin
            rw [hin2]
            clear hin hin2
            go_wp2
            go_roundw
            case rel => exact ⟨k + 1, _, by go_num, hlk, by have := HL2.out; omega, HN3.out, HX.out⟩
            case measure => simp [intOf]; omega
        · obtain rfl : k = F := by omega
          have HX : Hid (o2 = facts17 ((L.take (i + 1)).map B17.p) lo hi) := by
            show _ = _
            rw [HNX.out, HS2.out, List.take_of_length_le (Nat.le_of_eq HF.out.symm)]
          have HLZ : Hid (o2.length ≤ (i + 1) * 1000) := by show _ ≤ _; have := HL2.out; have := HLO.out; omega
          go_wp2
          go_roundw
          case rel => exact ⟨i + 1, _, by go_num, hlt, HLZ.out, HNW.out, HX.out⟩
          case measure => simp [intOf]; omega
    · obtain rfl : i = M := by omega
      have HX : Hid (out = facts17 (L.map B17.p) lo hi) := by
        show _ = _
        rw [HSP.out, List.take_of_length_le (Nat.le_of_eq HM.out.symm)]
      go_wp2
      go_ret
      exact ⟨_, rfl, by rw [← HX.out]; exact HNW.out.own.rd, HT1.out.trans HNW.out.turn (fun _ _ f => f)⟩

end Go.Proofs.Ytgchfckmhibeaaa

/-
  Stage 17: facts copied; facts deleted that a closure tells (slices.Clone, slices.IndexFunc, slices.DeleteFunc, walked).
-/
namespace Go.Proofs.Ytgchfckmhibeaaa
open Go.RowKit Go.ChangeShapes Go.WideShapes Go.Deep

set_option maxRecDepth 100000

/-- Behind a row that was copied. -/
def Copied17 (w : World) (l : List F9) (e : Ending) (w' : World) : Prop := ∃ v, e = .returned v ∧ NewE EF 76 w w' v l
set_option maxHeartbeats 2000000 in
theorem clone17 (sv : Value) (l : List F9) (w : World) (h : RdE EF w sv l) (hl : l.length ≤ 1000000) :
    Calls Try.prog 33 #[sv] w fun e w' => Copied17 w l e w' := by
  have HH := Lib.hid h
  obtain ⟨A, c, rfl⟩ := h.shape
  have hf := h.fits
  clear h
  cases A with
  | none =>
    obtain ⟨rfl, rfl⟩ := hf.2.2.2 rfl
    clear hf
    simp only [List.length_nil] at HH ⊢
    go_enter Try.func33, Try.ntmps33
    have hrun : ∀ W, Sem.run Try.prog (binOp .eql 43 (.slice none 0 0) (.slice none 0 0)) W = .ok (.bool true) W := fun W => Lib.run_eql_slice_nil W _ _ none 0 0 0 0 Try.underlying43
    go_wp2
    go_ret
    exact ⟨_, rfl, OwE.nil _, (fun k e => by simp [Value.ownBlock] at e), Turn.refl _ w⟩
  | some ad =>
    clear hf
    have HN0 := Lib.hid (NewE.empty (E := EF) (e := 76) w w (Turn.refl _ w))
    have HS := Lib.hid (HH.out.later HN0.out.turn)
    go_enter Try.func33, Try.ntmps33
    have hrun : ∀ W, Sem.run Try.prog (binOp .eql 43 (.slice (some ad) l.length c) (.slice none 0 0)) W = .ok (.bool false) W := fun W => Lib.run_eql_slice_nil W _ _ (some ad) l.length c 0 0 Try.underlying43
    go_wp2_with (at_builtin; refine wpList_facts9 _ rfl _ _ rfl _ [] rfl HN0.out.own _ rfl l HS.out (by simp only [List.length_nil]; omega) ?_; intro A3 n3 c3 w3 ho ht hn; have HN3 := Lib.hid (HN0.out.step ho ht hn); clear ho ht hn)
    go_ret
    exact ⟨_, rfl, HN3.out⟩

/-- Where the first fact is that a closure tells. -/
def Index17 (P : F9 → Bool) (l : List F9) (w : World) (e : Ending) (w' : World) : Prop :=
  (∃ r : Int, e = .returned (.int .i64 r) ∧ ((r = -1 ∧ ∀ f ∈ l, P f = false) ∨ ∃ (i : Nat) (f : F9), r = i ∧ l[i]? = some f ∧ P f = true ∧ ∀ g ∈ l.take i, P g = false)) ∧ Turn (fun _ => False) w w'
theorem take_all17 {α : Type} {l : List α} {Q : α → Prop} {i : Nat} {x : α} (h : ∀ g ∈ l.take i, Q g) (hx : l[i]? = some x) (hq : Q x) : ∀ g ∈ l.take (i + 1), Q g := fun g hg => by
  obtain ⟨h0, e⟩ := List.getElem?_eq_some_iff.1 hx
  rw [List.take_succ_eq_append_getElem h0, e] at hg
  rcases List.mem_append.1 hg with hg | hg
  · exact h g hg
  · rw [List.mem_singleton.1 hg]; exact hq

set_option maxHeartbeats 4000000 in
theorem index_any17 (P : F9 → Bool) (v : Value) (l : List F9) (q1 q2 : Nat) (w : World) (hv : RdE EF w v l) (hl : l.length ≤ 1000000)
    (hg : ∀ W f, Turn (fun _ => False) w W → Calls Try.prog 56 #[fv9 f, .pointer (some ⟨q1, 0, none⟩), .pointer (some ⟨q2, 0, none⟩)] W fun e w' => e = .returned (.bool (P f)) ∧ Turn (fun _ => False) W w') :
    Calls Try.prog 57 #[v, goes17 q1 q2] w fun e w' => Index17 P l w e w' := by
  have HV := Lib.hid hv; have HG := Lib.hid hg
  obtain ⟨A, c, rfl⟩ := hv.shape
  obtain ⟨N, hN⟩ : ∃ N, N = l.length := ⟨_, rfl⟩
  rw [← hN] at HV hl ⊢
  have HN := Lib.hid hN
  clear hv hg hN
  go_enter Try.func57, Try.ntmps57
  go_wp2_with fail
  go_loopw [8] (fun x8 wr => ∃ i : Nat, x8 = .int .i64 (i : Int) ∧ i ≤ N ∧ (∀ g ∈ l.take i, P g = false) ∧ Turn (fun _ => False) w wr) (fun x8 _ => N - (intOf x8).toNat)
  case atStart => exact ⟨0, rfl, Nat.zero_le _, (fun g hg => by cases hg), Turn.refl _ _⟩
  case round =>
    obtain ⟨i, rfl, hi, ha, ht⟩ := hrel
    have HA := Lib.hid ha; have HT := Lib.hid ht
    clear ha ht
    by_cases hlt : i < N
    · have hil : (i : Int) < N := by omega
      obtain ⟨f, hf⟩ : ∃ f, l[i]? = some f := ⟨_, List.getElem?_eq_getElem (by rw [← HN.out]; exact hlt)⟩
      obtain ⟨fd, rfl, hcf⟩ := fact_at6 HV.out hf
      obtain ⟨f0, f1, f2, f3, f4, f5⟩ := hcf wr HT.out
      have HF := Lib.hid hf
      clear hf hcf
      go_wp2_with fail
      refine (HG.out wr f HT.out).mono ?_
      rintro e w2 ⟨rfl, t2⟩
      have HT2 := Lib.hid (HT.out.trans t2 (fun _ _ f => f))
      clear t2
      cases hp : P f with
      | true =>
        have HP := Lib.hid hp
        clear hp
        go_wp2
        go_ret
        exact ⟨⟨_, rfl, .inr ⟨i, f, rfl, HF.out, HP.out, HA.out⟩⟩, HT2.out⟩
      | false =>
        have HP := Lib.hid hp
        clear hp
        go_wp2
        go_roundw
        case rel => exact ⟨i + 1, by go_num, hlt, take_all17 HA.out HF.out HP.out, HT2.out⟩
        case measure => simp [intOf]; omega
    · obtain rfl : i = N := by omega
      have HAL : Hid (∀ g ∈ l, P g = false) := by have h := HA.out; rw [List.take_of_length_le (Nat.le_of_eq HN.out.symm)] at h; exact h
      go_wp2
      go_ret
      exact ⟨⟨_, rfl, .inl ⟨rfl, HAL.out⟩⟩, HT.out⟩

theorem fact_size17 : (Try.prog.info? 76).map (·.size) = some EF.sz := by kernel_rfl
section
variable {w : World} {ad : Addr} {n c : Nat} {L : List F9}
/-- The cells that clear lays. -/
def zeros17 (m : Nat) : List Value := (Builtin.zeroCells (Value.cells (.agg #[.int .i64 0, .string ⟨#[]⟩, .string ⟨#[]⟩, .string ⟨#[]⟩, .string ⟨#[]⟩, .int .i64 0])) m).toList
theorem zeros_len17 (m : Nat) : (zeros17 m).length = m * 6 := by
  unfold zeros17
  rw [Array.length_toList, size_zeroCells]
  rfl
theorem zeros_one17 {m : Nat} {u : Value} (h : u ∈ zeros17 m) : u.oneCell' = true := by
  unfold zeros17 Builtin.zeroCells at h
  rw [Array.mem_toList_iff] at h
  obtain ⟨i, _, rfl⟩ := Array.mem_map.1 h
  have h6 : i % (Value.cells (.agg #[.int .i64 0, .string ⟨#[]⟩, .string ⟨#[]⟩, .string ⟨#[]⟩, .string ⟨#[]⟩, .int .i64 0])).size < 6 := Nat.mod_lt _ (by decide)
  generalize i % (Value.cells (.agg #[.int .i64 0, .string ⟨#[]⟩, .string ⟨#[]⟩, .string ⟨#[]⟩, .string ⟨#[]⟩, .int .i64 0])).size = k at h6 ⊢
  match k, h6 with
  | 0, _ => rfl
  | 1, _ => rfl
  | 2, _ => rfl
  | 3, _ => rfl
  | 4, _ => rfl
  | 5, _ => rfl
/-- clear of a row's end. -/
theorem clear_many17 (h : OwE EF 76 w (.slice (some ad) n c) L) {j : Nat} (hj : j < L.length) (c' : Nat) (ty : TypeId) :
    (Builtin.clear_ #[43] ty #[.slice (some (ad.add (j * 6))) (L.length - j) c']).run Try.prog w = .ok (.tuple #[]) (w.setCells ad.block (ad.off + j * 6) (zeros17 (L.length - j))) := by
  obtain ⟨cur, ha, hn, hb, h1, h2, h3, h4⟩ := h.home
  have hoff : ad.off = 0 := by rw [ha]
  have hadd : ad.add (j * 6) = ⟨ad.block, ad.off + j * 6, none⟩ := by
    obtain ⟨b, o, s⟩ := ad
    simp only [Addr.mk.injEq, true_and] at ha
    obtain ⟨rfl, rfl⟩ := ha
    rw [own_add, Nat.zero_add]
  have hv : ∀ w, (zeroValue 76).run Try.prog w = .ok (.agg #[.int .i64 0, .string ⟨#[]⟩, .string ⟨#[]⟩, .string ⟨#[]⟩, .string ⟨#[]⟩, .int .i64 0]) w := fun w => by kernel_rfl
  have hsz : L.length * 6 ≤ cur.size := by rw [h3]; exact Nat.mul_le_mul_right _ h1
  have hst := run_storeCells_cells (P := Try.prog) ad.block (ad.off + j * 6) (zeros17 (L.length - j)) 0 w (fun i hi => by
      rw [zeros_len17] at hi
      rw [hb.cell, Array.getElem?_eq_getElem (by omega)]
      rfl) (fun i _ => hb.free _) (fun u hu => zeros_one17 hu)
  unfold zeros17 at hst ⊢
  rw [hadd]
  obtain ⟨m, hm⟩ : ∃ m, L.length - j = m + 1 := ⟨L.length - j - 1, by omega⟩
  rw [hm] at hst ⊢
  simp [Builtin.clear_, run_underlying Try.underlying43, hv]
  simp only [Nat.add_zero] at hst
  rw [hst]
  rfl
/-- Cells behind a row's beginning stored: the beginning stays. -/
theorem OwE.ends {T : Type} {E : El T} {e : TypeId} {L : List T} (h : OwE E e w (.slice (some ad) n c) L) {j : Nat} (hj : j ≤ L.length) (M : List Value) (hM : j * E.sz + M.length ≤ L.length * E.sz) :
    OwE E e (w.setCells ad.block (ad.off + j * E.sz) M) (.slice (some ad) j c) (L.take j) := by
  obtain ⟨cur, ha, hn, hb, h1, h2, h3, h4⟩ := h.home
  have hoff : ad.off = 0 := by rw [ha]
  rw [hoff, Nat.zero_add]
  have hsz : L.length * E.sz ≤ cur.size := by rw [h3]; exact Nat.mul_le_mul_right _ h1
  have hbox := Box.setCells M (j * E.sz) cur w hb (by omega)
  have hl : (L.take j).length = j := by rw [List.length_take]; omega
  have ht : (cur.toList.take (j * E.sz)).length = j * E.sz := by rw [List.length_take, Array.length_toList]; omega
  have hr := OwE.of_box (E := E) (L := L.take j) (c := c) hbox (by rw [hl]; omega) h2 (by
    rw [List.size_toArray, List.length_append, List.length_append, ht, List.length_drop]
    have e1 : cur.toList.length = c * E.sz := by rw [Array.length_toList, h3]
    have e2 : ({ toList := M } : Array Value).size = M.length := rfl
    rw [e1]
    rw [h3] at hsz
    simp only [e2] at *
    omega) (by
    dsimp only
    rw [hl, List.append_assoc]
    have e1 : (cur.toList.take (j * E.sz) ++ (M ++ cur.toList.drop (j * E.sz + M.length))).take (j * E.sz) = cur.toList.take (j * E.sz) := by
      conv => lhs; arg 1; rw [← ht]
      rw [List.take_left]
    rw [e1, E.flat_take, ← h4, List.take_take, Nat.min_eq_left (Nat.mul_le_mul_right _ hj)])
  rw [hl, ← ha] at hr
  exact hr
end

end Go.Proofs.Ytgchfckmhibeaaa

/-
  Stage 17: slices.DeleteFunc at facts, walked, in a row of one's own.
-/
namespace Go.Proofs.Ytgchfckmhibeaaa
open Go.RowKit Go.ChangeShapes Go.WideShapes Go.Deep

set_option maxRecDepth 100000

/-- Behind DeleteFunc. -/
def Deleted17 (P : F9 → Bool) (l : List F9) (v : Value) (w : World) (e : Ending) (w' : World) : Prop :=
  ∃ v', e = .returned v' ∧ OwE EF 76 w' v' (l.filter fun f => !P f) ∧ Turn (fun k => v.ownBlock = some k) w w' ∧ ∀ k, v'.ownBlock = some k → v.ownBlock = some k
theorem keep_all17 {P : F9 → Bool} {l : List F9} (h : ∀ f ∈ l, P f = false) : l.filter (fun f => !P f) = l := List.filter_eq_self.2 (fun f hf => by rw [h f hf]; rfl)
theorem drop_set17 {α : Type} {M l : List α} {a j : Nat} {x : α} (ha : a ≤ j) (h : M.drop j = l.drop j) : (M.set a x).drop (j + 1) = l.drop (j + 1) := by
  have h1 : M.drop (j + 1) = l.drop (j + 1) := by rw [← List.drop_drop, ← List.drop_drop, h]
  rw [List.drop_set_of_lt (by omega), h1]
theorem take_set17 {α : Type} {M : List α} {a : Nat} {x : α} (h : a < M.length) : (M.set a x).take (a + 1) = M.take a ++ [x] := by
  rw [List.take_set, List.take_succ_eq_append_getElem h]
  have e : (M.take a).length = a := by rw [List.length_take]; omega
  rw [List.set_append_right _ _ (by omega), e, Nat.sub_self]
  rfl
/-- A round of DeleteFunc: kept ones ahead, the others as they were. -/
structure Del17 (P : F9 → Bool) (l : List F9) (ad : Addr) (n c : Nat) (w : World) (a j : Nat) (M : List F9) (W : World) : Prop where
  aj : a < j
  jn : j ≤ n
  len : M.length = n
  done : M.take a = (l.take j).filter fun f => !P f
  rest : M.drop j = l.drop j
  own : OwE EF 76 W (.slice (some ad) n c) M
  turn : Turn (fun k => k = ad.block) w W

set_option maxHeartbeats 8000000 in
theorem delete_any17 (P : F9 → Bool) (v : Value) (l : List F9) (q1 q2 : Nat) (w : World) (hv : OwE EF 76 w v l) (hl : l.length ≤ 1000000)
    (hg : ∀ W f, Turn (fun k => v.ownBlock = some k) w W → Calls Try.prog 56 #[fv9 f, .pointer (some ⟨q1, 0, none⟩), .pointer (some ⟨q2, 0, none⟩)] W fun e w' => e = .returned (.bool (P f)) ∧ Turn (fun _ => False) W w') :
    Calls Try.prog 34 #[v, goes17 q1 q2] w fun e w' => Deleted17 P l v w e w' := by
  have HV := Lib.hid hv; have HG := Lib.hid hg
  obtain ⟨A, c, rfl⟩ := hv.shape
  obtain ⟨n, hn⟩ : ∃ n, n = l.length := ⟨_, rfl⟩
  have HIX := Lib.hid (index_any17 P _ l q1 q2 w hv.rd hl (fun W f hW => hg W f hW.none))
  rw [← hn] at HV HG HIX hl ⊢
  have HN := Lib.hid hn
  clear hv hg hn
  go_enter Try.func34, Try.ntmps34
  go_wp2_with fail
  refine HIX.out.mono ?_
  rintro e w1 ⟨⟨r, rfl, hr⟩, t1⟩
  have HT1 := Lib.hid t1
  clear t1 HIX
  rcases hr with ⟨rfl, hall⟩ | ⟨i, f, rfl, hif, hpf, hpre⟩
  · have HK : Hid (l.filter (fun f => !P f) = l) := keep_all17 hall
    clear hall
    go_wp2
    go_ret
    exact ⟨_, rfl, by rw [HK.out]; exact HV.out.later HT1.out, HT1.out.none, fun k hk => hk⟩
  · have hin : i < n := by rw [HN.out]; exact (List.getElem?_eq_some_iff.1 hif).1
    have hne : ((i : Int) == -1) = false := by rw [beq_eq_false_iff_ne]; omega
    obtain ⟨ad, rfl, -⟩ := HV.out.some_at (by rw [← HN.out]; omega)
    have H0 : Hid (Del17 P l ad n c w i (i + 1) l w1) := ⟨Nat.lt_succ_self _, hin, HN.out.symm, by
      have h1 := take_filter17 (P := fun f => !P f) hif
      rw [h1, if_neg (by rw [hpf]; decide), List.append_nil]
      exact (keep_all17 hpre).symm, rfl, HV.out.later HT1.out, HT1.out.none⟩
    have HG2 : Hid (∀ W f, Turn (fun k => k = ad.block) w W → Calls Try.prog 56 #[fv9 f, .pointer (some ⟨q1, 0, none⟩), .pointer (some ⟨q2, 0, none⟩)] W fun e w' => e = .returned (.bool (P f)) ∧ Turn (fun _ => False) W w') := fun W f hW => HG.out W f (hW.mono (fun k _ e => by rw [e]; rfl))
    clear hif hpf hpre HG HV HT1
    go_wp2_with fail
    go_loopw [5, 6] (fun x5 x6 wr => ∃ (a j : Nat) (M : List F9), x5 = .int .i64 (a : Int) ∧ x6 = .int .i64 (j : Int) ∧ Del17 P l ad n c w a j M wr) (fun _ x6 _ => n - (intOf x6).toNat)
    case atStart => exact ⟨i, i + 1, l, rfl, by go_num, H0.out⟩
    case round =>
      clear H0 hne hin
      obtain ⟨a, j, M, rfl, rfl, hd⟩ := hrel
      have HD := Lib.hid hd
      have haj := hd.aj
      have hjn := hd.jn
      clear hd
      by_cases hlt : j < n
      · have hjl : (j : Int) < n := by omega
        have han : (a : Int) < n := by omega
        obtain ⟨g, hg⟩ : ∃ g, M[j]? = some g := ⟨_, List.getElem?_eq_getElem (by rw [HD.out.len]; exact hlt)⟩
        have hgl : l[j]? = some g := by
          have h1 : (M.drop j)[0]? = some g := by rw [List.getElem?_drop]; exact hg
          rw [HD.out.rest, List.getElem?_drop] at h1
          exact h1
        have HTF := Lib.hid (take_filter17 (P := fun f => !P f) hgl)
        obtain ⟨fd, hfd, hcf⟩ := fact_at6 HD.out.own.rd hg
        cases hfd
        obtain ⟨f0, f1, f2, f3, f4, f5⟩ := hcf wr (Turn.refl _ _)
        have hbx := Box.new wr 76 #[.int .i64 g.k.h, sv9 g.k.a, sv9 g.k.b, sv9 g.k.c, sv9 g.k.d, .int .i64 g.v]
        have e0 := hbx.cell 0; have e1 := hbx.cell 1; have e2 := hbx.cell 2; have e3 := hbx.cell 3; have e4 := hbx.cell 4; have e5 := hbx.cell 5
        obtain ⟨w2, hw2⟩ : ∃ w2, w2 = wr.alloc (.cells #[.int .i64 g.k.h, sv9 g.k.a, sv9 g.k.b, sv9 g.k.c, sv9 g.k.d, .int .i64 g.v] 76) := ⟨_, rfl⟩
        have HT2 : Hid (Turn (fun _ => False) wr w2) := by rw [hw2]; exact (Turn.refl _ wr).alloc _
        rw [← hw2] at hbx
        have HBX := Lib.hid hbx
        have HW2 := Lib.hid hw2
        clear hg hgl hcf hbx hw2
        go_wp2_with fail
        rw [← HW2.out]
        refine (HG2.out w2 g (HD.out.turn.trans HT2.out (fun _ _ f => f.elim))).mono ?_
        rintro e w3 ⟨rfl, t3⟩
        have hbx := HBX.out.turn t3 (fun f => f)
        clear e0 e1 e2 e3 e4 e5 f0 f1 f2 f3 f4 f5
        have HT3 := Lib.hid (HT2.out.trans t3 (fun _ _ f => f))
        have HO3 := Lib.hid (HD.out.own.later HT3.out)
        cases hp : P g with
        | true =>
          have HX : Hid (M.take a = (l.take (j + 1)).filter fun f => !P f) := by
            show _ = _
            rw [HTF.out, if_neg (by rw [hp]; decide), List.append_nil]
            exact HD.out.done
          have HRS : Hid (M.drop (j + 1) = l.drop (j + 1)) := by
            show _ = _
            rw [← List.drop_drop, ← List.drop_drop, HD.out.rest]
          have HTW : Hid (Turn (fun k => k = ad.block) w w3) := HD.out.turn.trans HT3.out (fun _ _ f => f.elim)
          clear hp hbx t3
          go_wp2
          go_roundw
          case rel => exact ⟨a, j + 1, M, rfl, by go_num, by omega, hlt, HD.out.len, HX.out, HRS.out, HO3.out, HTW.out⟩
          case measure => simp [intOf]; omega
        | false =>
          have haM : a < M.length := by rw [HD.out.len]; omega
          have HX : Hid ((M.set a g).take (a + 1) = (l.take (j + 1)).filter fun f => !P f) := by
            show _ = _
            rw [take_set17 haM, HTF.out, if_pos (by rw [hp]; rfl), HD.out.done]
          have HRS : Hid ((M.set a g).drop (j + 1) = l.drop (j + 1)) := drop_set17 (by omega) HD.out.rest
          have HLS : Hid ((M.set a g).length = n) := by show _ = _; rw [List.length_set]; exact HD.out.len
          have HTW : Hid (Turn (fun k => k = ad.block) w w3) := HD.out.turn.trans HT3.out (fun _ _ f => f.elim)
          have HAM := Lib.hid haM
          have e0 := hbx.cell 0; have e1 := hbx.cell 1; have e2 := hbx.cell 2; have e3 := hbx.cell 3; have e4 := hbx.cell 4; have e5 := hbx.cell 5
          have hwa : IntKind.i64.wrap ((a : Int) + 1) = (a : Int) + 1 := IntWalk.i64_in _ (by omega)
          clear hp hbx t3 haM
          have HSI := Lib.hid fact_size17
          go_wp2_with (with_reducible refine wpList_put9 (op := ⟨none, .store 76 (.tmp 33) (.tmp 32), _, _, _, _⟩) rfl _ _ rfl HSI.out HO3.out a g HAM.out rfl rfl ?_; intro w6 ho6 ht6; have HO6 := Lib.hid ho6; have HT6 := Lib.hid (HTW.out.trans ht6 (fun _ _ e => e)); clear ho6 ht6)
          go_roundw
          case rel => exact ⟨a + 1, j + 1, M.set a g, by go_num, by go_num, by omega, hlt, HLS.out, HX.out, HRS.out, HO6.out, HT6.out⟩
          case measure => simp [intOf]; omega
      · obtain rfl : j = n := by omega
        have hca : c - a ≠ 0 ∧ ¬ c = a ∧ j ≤ c := by
          have h1 := HD.out.own.rd.fits
          rw [HD.out.len] at h1
          omega
        obtain ⟨-, hca1, hca2⟩ := hca
        have HFL : Hid (M.take a = l.filter fun f => !P f) := by
          show _ = _
          rw [HD.out.done, List.take_of_length_le (Nat.le_of_eq HN.out.symm)]
        have htl : ∀ W, (Instr.slice 43 (.slice (some ad) j c) (some (.int .i64 (a : Int))) none none).run Try.prog W = .ok (.slice (some (ad.add (a * 6))) (j - a) (c - a)) W := fun W => by
          have h := run_tailV (E := EF) (P := Try.prog) Try.underlying43 fact_size17 (some ad) j c a (by omega) W
          unfold tailV at h
          rw [if_neg hca1] at h
          exact h
        have hfr : ∀ W, (Instr.slice 43 (.slice (some ad) j c) none (some (.int .i64 (a : Int))) none).run Try.prog W = .ok (.slice (some ad) a c) W := fun W => run_frontV (E := EF) (P := Try.prog) Try.underlying43 fact_size17 (some ad) j c a (by omega) W
        have hcl : ∀ ty, (Builtin.clear_ #[43] ty #[.slice (some (ad.add (a * 6))) (j - a) (c - a)]).run Try.prog wr = .ok (.tuple #[]) (wr.setCells ad.block (ad.off + a * 6) (zeros17 (j - a))) := fun ty => by
          have h := clear_many17 (j := a) HD.out.own (by rw [HD.out.len]; exact haj) (c - a) ty
          rw [HD.out.len] at h
          exact h
        have HOE : Hid (OwE EF 76 (wr.setCells ad.block (ad.off + a * 6) (zeros17 (j - a))) (.slice (some ad) a c) (l.filter fun f => !P f)) := by
          have h := HD.out.own.ends (j := a) (by rw [HD.out.len]; omega) (zeros17 (j - a)) (by rw [zeros_len17, HD.out.len]; show a * 6 + (j - a) * 6 ≤ j * 6; omega)
          rw [HFL.out] at h
          exact h
        have HTE : Hid (Turn (fun k => (Value.slice (some ad) j c).ownBlock = some k) w (wr.setCells ad.block (ad.off + a * 6) (zeros17 (j - a)))) :=
          (HD.out.turn.mono (fun k _ e => by rw [e]; rfl)).trans (turn_setCells (S := fun k => k = ad.block) rfl _ _ _) (fun k _ e => by rw [e]; rfl)
        clear hca1 hca2
        generalize wr.setCells ad.block (ad.off + a * 6) (zeros17 (j - a)) = w9 at *
        go_wp2
        go_ret
        exact ⟨_, rfl, HOE.out, HTE.out, fun k hk => hk⟩

end Go.Proofs.Ytgchfckmhibeaaa

/-
  Stage 17: the program's Trim.
-/
namespace Go.Proofs.Ytgchfckmhibeaaa
open Go.RowKit

set_option maxRecDepth 100000

/-- Within a round: the batch's box, its facts in a row of its own. -/
structure InP17 (w0 : World) (q : Nat) (b : B17) (W : World) : Prop where
  box : Box W q 50 (bcells17 b)
  new : NewE EF 76 w0 W b.sl b.f
  lo : w0.heap.size ≤ q
theorem InP17.later {w0 W W1 : World} {q : Nat} {b : B17} (h : InP17 w0 q b W) (ht : Turn (fun _ => False) W W1) : InP17 w0 q b W1 := ⟨h.box.turn ht (fun f => f), h.new.later ht, h.lo⟩
theorem inp_put17 {w0 W : World} {q : Nat} {b : B17} {A2 : Option Addr} {n2 c2 : Nat} {M : List F9} (hb : Box W q 50 (bcells17 b)) (hn : NewE EF 76 w0 W (.slice A2 n2 c2) M) (hlo : w0.heap.size ≤ q) :
    InP17 w0 q ⟨b.seq, b.tick, b.bud, A2, c2, M⟩ (W.setCell ⟨q, 3, none⟩ (.slice A2 n2 c2)) := by
  obtain ⟨A', c', e⟩ := hn.own.shape
  injection e with e1 e2 e3
  subst e2
  have hs : Turn (fun g => g = q) W (W.setCell ⟨q, 3, none⟩ (.slice A2 M.length c2)) := Turn.setCell (S := fun g => g = q) (p := ⟨q, 3, none⟩) (Turn.refl _ W) (fun _ => rfl) _
  have hb3 := hb.set 3 (.slice A2 M.length c2)
  simp only [List.setIfInBounds_toArray, List.set_cons_succ, List.set_cons_zero] at hb3
  have ho2 := hn.own.not_box hb (by decide)
  exact ⟨hb3, ⟨hn.own.turn hs (fun k hk e => ho2 (by rw [hk, e])), hn.new, hn.turn.trans hs (fun k hk e => by omega)⟩, hlo⟩
theorem new_base17 {T : Type} {E : El T} {e : TypeId} {w0 w1 w2 : World} {v : Value} {L : List T} (h : NewE E e w1 w2 v L) (ht : Turn (fun _ => False) w0 w1) : NewE E e w0 w2 v L :=
  ⟨h.own, fun k hk => Nat.le_trans ht.size (h.new k hk), ht.trans h.turn (fun _ _ f => f)⟩
theorem keep_in17 {q mark lo hi : Int} (h : q ≤ mark) (f : F9) : keepF17 q mark lo hi f = !inF17 lo hi f := by
  unfold keepF17 inF17
  rw [decide_eq_false (show ¬ q > mark by omega), Bool.false_or]
  by_cases h1 : f.k.h < lo
  · rw [decide_eq_true h1, decide_eq_false (show ¬ f.k.h ≥ lo by omega)]; rfl
  · rw [decide_eq_false h1, decide_eq_true (show f.k.h ≥ lo by omega), Bool.false_or, Bool.true_and]
    by_cases h2 : f.k.h < hi
    · rw [decide_eq_true h2, decide_eq_false (show ¬ f.k.h ≥ hi by omega)]; rfl
    · rw [decide_eq_false h2, decide_eq_true (show f.k.h ≥ hi by omega)]; rfl

set_option maxHeartbeats 16000000 in
theorem trim_any17 (v : Value) (L : List B17) (lo hi mark : Int) (w : World) (hv : BR17 w v L) (hf : Some17 L) : Calls Try.prog 16 #[v, .int .i64 lo, .int .i64 hi, .int .i64 mark] w fun e w' => Trimmed17 w (trim17 (L.map B17.p) lo hi mark) e w' := by
  have HV := Lib.hid hv
  obtain ⟨A, c, rfl⟩ := hv.shape
  have HFW := Lib.hid hf
  obtain ⟨M, hM⟩ : ∃ M, M = L.length := ⟨_, rfl⟩
  have hMb : M ≤ 100 := by have := hf.1; omega
  rw [← hM]
  rw [← hM] at HV
  have HM := Lib.hid hM
  clear hv hf hM
  go_enter Try.func16, Try.ntmps16
  go_wp2_with fail
  refine (within_any17 lo hi w).mono ?_
  rintro e w1 ⟨q1, q2, rfl, hb1, hb2, t1, -, -⟩
  have HB1 := Lib.hid hb1; have HB2 := Lib.hid hb2; have HT1 := Lib.hid t1
  clear hb1 hb2 t1
  go_wp2_with fail
  go_loopw [10, 18] (fun x10 x18 wr => ∃ (i : Nat) (out : List B17), x18 = .int .i64 (i : Int) ∧ i ≤ M ∧ out.length ≤ i ∧ NewE EB17 50 w1 wr x10 out ∧ Off17 wr x10 out ∧ out.map B17.p = trim17 ((L.take i).map B17.p) lo hi mark) (fun _ x18 _ => M - (intOf x18).toNat)
  case atStart => exact ⟨0, [], rfl, Nat.zero_le _, Nat.le_refl _, ⟨OwE.nil _, (fun k e => by simp [Value.ownBlock] at e), Turn.refl _ _⟩, Off17.nil _ _, rfl⟩
  case round =>
    obtain ⟨i, out, rfl, hi', hlo, hnew, hoff, hsp⟩ := hrel
    have HNW := Lib.hid hnew
    have HOF := Lib.hid hoff
    have HSP := Lib.hid hsp
    have HLO := Lib.hid hlo
    obtain ⟨A9, c9, hv9⟩ := hnew.own.shape
    subst hv9
    clear hnew hoff hsp hlo
    by_cases hlt : i < M
    · have hil : (i : Int) < M := by omega
      obtain ⟨b, hb⟩ : ∃ b, L[i]? = some b := ⟨_, List.getElem?_eq_getElem (by rw [← HM.out]; exact hlt)⟩
      have hbm : b ∈ L := List.mem_of_getElem? hb
      obtain ⟨ad, rfl, hc⟩ := bat_at17 HV.out.1 hb
      have HNX : Hid (trim17 ((L.take (i + 1)).map B17.p) lo hi mark = out.map B17.p ++ trim1 lo hi mark b.p) := by show _ = _; rw [trim_next17 hb, HSP.out]
      have HTO : Hid (Turn (fun _ => False) w wr) := HT1.out.trans HNW.out.turn (fun _ _ f => f)
      have HFR : Hid (RdE EF wr b.sl b.f) := (HV.out.2 b hbm).later HTO.out
      have hF1 := HFW.out.2 b hbm
      obtain ⟨y0, y1, y2, y3⟩ := hc wr HTO.out
      obtain ⟨sq, tk, bd, A3, c3, fs⟩ := b
      dsimp only [B17.sl, B17.p] at y0 y1 y2 y3 HNX HFR hF1
      obtain ⟨F, hF⟩ : ∃ F, F = fs.length := ⟨_, rfl⟩
      have hFb : F ≤ 1000 := by omega
      rw [← hF] at y3 HFR
      have HF := Lib.hid hF
      obtain ⟨q, hq⟩ : ∃ q, q = wr.heap.size := ⟨_, rfl⟩
      have hbx := Box.new wr 50 #[.int .i64 sq, .int .i64 tk, .int .i64 bd, .slice A3 F c3]
      have e3 := hbx.cell 3
      obtain ⟨wq, hwq⟩ : ∃ wq, wq = wr.alloc (.cells #[.int .i64 sq, .int .i64 tk, .int .i64 bd, .slice A3 F c3] 50) := ⟨_, rfl⟩
      have HTQ : Hid (Turn (fun _ => False) wr wq) := by rw [hwq]; exact (Turn.refl _ wr).alloc _
      rw [← hwq, ← hq] at hbx
      have HBX := Lib.hid hbx
      have HLQ : Hid (wr.heap.size ≤ q) := Nat.le_of_eq hq.symm
      have HCL := Lib.hid (clone17 (.slice A3 F c3) fs wq (HFR.out.later HTQ.out) (by omega))
      have HWQ := Lib.hid hwq; have HQ := Lib.hid hq
      clear hb hbm hc hF hF1 hq hwq hbx
      go_wp2_with fail
      rw [← HQ.out, ← HWQ.out]
      refine HCL.out.mono ?_
      rintro e w2 ⟨v2, rfl, hn2⟩
      obtain ⟨A2, c2, hv2⟩ := hn2.own.shape
      rw [← HF.out] at hv2
      subst hv2
      have hbx2 := HBX.out.turn hn2.turn (fun f => f)
      have x3 := hbx2.cell 3
      have z3 := hbx2.free 3
      have hin := inp_put17 (b := ⟨sq, tk, bd, A3, c3, fs⟩) (q := q) (w0 := wr) (by show Box w2 q _ #[.int .i64 sq, .int .i64 tk, .int .i64 bd, .slice A3 fs.length c3]; rw [← HF.out]; exact hbx2) (new_base17 hn2 HTQ.out) HLQ.out
      obtain ⟨w3, hw3⟩ : ∃ w3, w3 = w2.setCell ⟨q, 3, none⟩ (.slice A2 F c2) := ⟨_, rfl⟩
      rw [← hw3] at hin
      dsimp only at hin
      have HI := Lib.hid hin
      have g0 : (w2.setCell ⟨q, 3, none⟩ (.slice A2 F c2)).cell? ⟨q, 0, none⟩ = some (.int .i64 sq) := by rw [← hw3]; exact hin.box.cell 0
      have g3 : (w2.setCell ⟨q, 3, none⟩ (.slice A2 F c2)).cell? ⟨q, 3, none⟩ = some (.slice A2 F c2) := by rw [← hw3, HF.out]; exact hin.box.cell 3
      have HW3 := Lib.hid hw3
      clear e3 y0 y1 y2 y3 HCL hn2 hbx2 hin hw3 HWQ HQ
      by_cases hmk : sq ≤ mark
      · have HDL := Lib.hid (delete_any17 (inF17 lo hi) (.slice A2 F c2) fs q1 q2 w3 (by have h := HI.out.new.own; dsimp only [B17.sl] at h; rw [HF.out]; exact h) (by rw [← HF.out]; omega) (fun W f hW => by
          have ht : Turn (fun k => (Value.slice A2 F c2).ownBlock = some k) w1 W := (HNW.out.turn.trans HI.out.new.turn (fun _ _ f => f)).none.trans hW (fun _ _ e => e)
          have ho := HI.out.new.own
          dsimp only [B17.sl] at ho
          rw [← HF.out] at ho
          have ho1 := HB1.out.turn (HNW.out.turn.trans HI.out.new.turn (fun _ _ f => f)) (fun f => f)
          have ho2 := HB2.out.turn (HNW.out.turn.trans HI.out.new.turn (fun _ _ f => f)) (fun f => f)
          exact goes_any17 f (ho1.turn hW (ho.not_box ho1 (by decide))) (ho2.turn hW (ho.not_box ho2 (by decide)))))
        clear HB1 HB2
        go_wp2_with fail
        rw [← HW3.out]
        refine HDL.out.mono ?_
        rintro e w4 ⟨v4, rfl, ho4, t4, ns4⟩
        obtain ⟨A5, c5, hv4⟩ := ho4.shape
        subst hv4
        obtain ⟨fl, hfl⟩ : ∃ fl, fl = fs.filter fun f => !inF17 lo hi f := ⟨_, rfl⟩
        rw [← hfl] at ho4 ns4 ⊢
        obtain ⟨G, hG⟩ : ∃ G, G = fl.length := ⟨_, rfl⟩
        rw [← hG] at ho4 ns4 ⊢
        have HGG := Lib.hid hG
        have HFE : Hid (fl = fs.filter (keepF17 sq mark lo hi)) := by
          show _ = _
          rw [hfl]
          exact (List.filter_congr (fun f _ => keep_in17 hmk f)).symm
        have hi3 := HI.out
        have ho3 := hi3.new.own
        dsimp only [B17.sl] at ho3
        rw [← HF.out] at ho3
        have hb4 := hi3.box.turn t4 (ho3.not_box hi3.box (by decide))
        have x4 := hb4.cell 3
        have z4 := hb4.free 3
        have hn4 : NewE EF 76 wr w4 (.slice A5 G c5) fl := ⟨ho4, fun k hk => by
          have h1 := hi3.new.new k
          dsimp only [B17.sl] at h1
          rw [← HF.out] at h1
          exact h1 (ns4 k hk), hi3.new.turn.trans t4 (fun k hk e => by
          have h1 := hi3.new.new k
          dsimp only [B17.sl] at h1
          rw [← HF.out] at h1
          have h2 := h1 e
          omega)⟩
        have hj := inp_put17 hb4 hn4 HLQ.out
        obtain ⟨wj, hwj⟩ : ∃ wj, wj = w4.setCell ⟨q, 3, none⟩ (.slice A5 G c5) := ⟨_, rfl⟩
        rw [← hwj] at hj
        dsimp only at hj
        have HJ := Lib.hid hj
        have HWJ := Lib.hid hwj
        have g4 : (w4.setCell ⟨q, 3, none⟩ (.slice A5 G c5)).cell? ⟨q, 3, none⟩ = some (.slice A5 G c5) := by rw [← hwj, hG]; exact hj.box.cell 3
        clear hG hi3 ho3 ho4 t4 ns4 hfl hb4 hn4 hj hwj HDL HI g0 g3 x3 z3
        obtain ⟨d0, d1, d2, d3⟩ := box_bat17 HJ.out.box
        dsimp only [B17.sl] at d0 d1 d2 d3
        rw [← HGG.out] at d3
        by_cases hG0 : 0 < G
        · have HX : Hid ((out ++ [(⟨sq, tk, bd, A5, c5, fl⟩ : B17)]).map B17.p = trim17 ((L.take (i + 1)).map B17.p) lo hi mark) := by
            show _ = _
            have hne : ¬ (fs.filter (keepF17 sq mark lo hi)).isEmpty = true := fun e => by
              rw [← HFE.out, List.isEmpty_iff] at e
              have := HGG.out
              rw [e] at this
              exact absurd hG0 (by rw [this]; simp)
            rw [HNX.out, List.map_append]
            unfold trim1
            rw [if_neg hne, ← HFE.out]
            rfl
          have hwz := HJ.out.new.turn
          have HNZ := Lib.hid ((HNW.out.later hwz).alloc (.cells #[.int .i64 sq, .int .i64 tk, .int .i64 bd, .slice A5 G c5] 50))
          have HSR : Hid (RdE EB17 (wj.alloc (.cells #[.int .i64 sq, .int .i64 tk, .int .i64 bd, .slice A5 G c5] 50)) (.slice (some ⟨wj.heap.size, 0, none⟩) 1 1) [⟨sq, tk, bd, A5, c5, fl⟩]) := by rw [HGG.out]; exact one_row EB17 50 wj ⟨sq, tk, bd, A5, c5, fl⟩
          have HOZ := Lib.hid ((HOF.out.later hwz).later ((Turn.refl (fun _ => False) wj).alloc (.cells #[.int .i64 sq, .int .i64 tk, .int .i64 bd, .slice A5 G c5] 50)))
          have HRZ : Hid (RdE EF (wj.alloc (.cells #[.int .i64 sq, .int .i64 tk, .int .i64 bd, .slice A5 G c5] 50)) (B17.sl ⟨sq, tk, bd, A5, c5, fl⟩) fl) := HJ.out.new.own.rd.later ((Turn.refl _ wj).alloc _)
          have HAP := Lib.hid (apart17 (b := ⟨sq, tk, bd, A5, c5, fl⟩) HNW.out HJ.out.new.new)
          have HLM : Hid (out.length + 1 ≤ 1000000) := by show _ ≤ _; have := HLO.out; omega
          clear hwz
          rw [HWJ.out] at d0 d1 d2 d3 HNZ HSR HOZ HRZ
          simp only [World.size_setCell] at HSR
          go_wp2_with (at_builtin; refine wpList_walb17 _ rfl _ _ rfl _ _ rfl HNZ.out.own _ rfl [⟨sq, tk, bd, A5, c5, fl⟩] HSR.out HLM.out ?_; intro A6 n6 c6 w5 ho5 ht5 hn5; have HN5 := Lib.hid (HNZ.out.step ho5 ht5 hn5); have HO5 := Lib.hid (HOZ.out.step (b := ⟨sq, tk, bd, A5, c5, fl⟩) HRZ.out HAP.out ht5 hn5); clear ho5 ht5 hn5)
          go_roundw
          case rel => exact ⟨i + 1, _, by go_num, hlt, by rw [List.length_append, List.length_singleton]; have := HLO.out; omega, HN5.out, HO5.out, HX.out⟩
          case measure => simp [intOf]; omega
        · have HX : Hid (out.map B17.p = trim17 ((L.take (i + 1)).map B17.p) lo hi mark) := by
            show _ = _
            have hem : (fs.filter (keepF17 sq mark lo hi)).isEmpty = true := by
              rw [← HFE.out, List.isEmpty_iff]
              exact List.eq_nil_of_length_eq_zero (by rw [← HGG.out]; omega)
            rw [HNX.out]
            unfold trim1
            rw [if_pos hem, List.append_nil]
          have hwz := HJ.out.new.turn
          have HNZ := Lib.hid (HNW.out.later hwz)
          have HOZ := Lib.hid (HOF.out.later hwz)
          clear hwz
          rw [HWJ.out] at d0 d1 d2 d3 HNZ HOZ
          go_wp2
          go_roundw
          case rel => exact ⟨i + 1, _, by go_num, hlt, by have := HLO.out; omega, HNZ.out, HOZ.out, HX.out⟩
          case measure => simp [intOf]; omega
      · have hmk2 : mark < sq := by omega
        have HFE : Hid (fs = fs.filter (keepF17 sq mark lo hi)) := (List.filter_eq_self.2 (fun f _ => keep_mark17 hmk2)).symm
        clear HB1 HB2
        obtain ⟨d0, d1, d2, d3⟩ := box_bat17 HI.out.box
        dsimp only [B17.sl] at d0 d1 d2 d3
        rw [← HF.out] at d3
        by_cases hG0 : 0 < F
        · have HX : Hid ((out ++ [(⟨sq, tk, bd, A2, c2, fs⟩ : B17)]).map B17.p = trim17 ((L.take (i + 1)).map B17.p) lo hi mark) := by
            show _ = _
            have hne : ¬ (fs.filter (keepF17 sq mark lo hi)).isEmpty = true := fun e => by
              rw [← HFE.out, List.isEmpty_iff] at e
              have := HF.out
              rw [e] at this
              exact absurd hG0 (by rw [this]; simp)
            rw [HNX.out, List.map_append]
            unfold trim1
            rw [if_neg hne, ← HFE.out]
            rfl
          have hwz := HI.out.new.turn
          have HNZ := Lib.hid ((HNW.out.later hwz).alloc (.cells #[.int .i64 sq, .int .i64 tk, .int .i64 bd, .slice A2 F c2] 50))
          have HSR : Hid (RdE EB17 (w3.alloc (.cells #[.int .i64 sq, .int .i64 tk, .int .i64 bd, .slice A2 F c2] 50)) (.slice (some ⟨w3.heap.size, 0, none⟩) 1 1) [⟨sq, tk, bd, A2, c2, fs⟩]) := by rw [HF.out]; exact one_row EB17 50 w3 ⟨sq, tk, bd, A2, c2, fs⟩
          have HOZ := Lib.hid ((HOF.out.later hwz).later ((Turn.refl (fun _ => False) w3).alloc (.cells #[.int .i64 sq, .int .i64 tk, .int .i64 bd, .slice A2 F c2] 50)))
          have HRZ : Hid (RdE EF (w3.alloc (.cells #[.int .i64 sq, .int .i64 tk, .int .i64 bd, .slice A2 F c2] 50)) (B17.sl ⟨sq, tk, bd, A2, c2, fs⟩) fs) := HI.out.new.own.rd.later ((Turn.refl _ w3).alloc _)
          have HAP := Lib.hid (apart17 (b := ⟨sq, tk, bd, A2, c2, fs⟩) HNW.out HI.out.new.new)
          have HLM : Hid (out.length + 1 ≤ 1000000) := by show _ ≤ _; have := HLO.out; omega
          clear hwz
          rw [HW3.out] at d0 d1 d2 d3 HNZ HSR HOZ HRZ
          simp only [World.size_setCell] at HSR
          go_wp2_with (at_builtin; refine wpList_walb17 _ rfl _ _ rfl _ _ rfl HNZ.out.own _ rfl [⟨sq, tk, bd, A2, c2, fs⟩] HSR.out HLM.out ?_; intro A6 n6 c6 w5 ho5 ht5 hn5; have HN5 := Lib.hid (HNZ.out.step ho5 ht5 hn5); have HO5 := Lib.hid (HOZ.out.step (b := ⟨sq, tk, bd, A2, c2, fs⟩) HRZ.out HAP.out ht5 hn5); clear ho5 ht5 hn5)
          go_roundw
          case rel => exact ⟨i + 1, _, by go_num, hlt, by rw [List.length_append, List.length_singleton]; have := HLO.out; omega, HN5.out, HO5.out, HX.out⟩
          case measure => simp [intOf]; omega
        · have HX : Hid (out.map B17.p = trim17 ((L.take (i + 1)).map B17.p) lo hi mark) := by
            show _ = _
            have hem : (fs.filter (keepF17 sq mark lo hi)).isEmpty = true := by
              rw [← HFE.out, List.isEmpty_iff]
              exact List.eq_nil_of_length_eq_zero (by rw [← HF.out]; omega)
            rw [HNX.out]
            unfold trim1
            rw [if_pos hem, List.append_nil]
          have hwz := HI.out.new.turn
          have HNZ := Lib.hid (HNW.out.later hwz)
          have HOZ := Lib.hid (HOF.out.later hwz)
          clear hwz
          rw [HW3.out] at d0 d1 d2 d3 HNZ HOZ
          go_wp2
          go_roundw
          case rel => exact ⟨i + 1, _, by go_num, hlt, by have := HLO.out; omega, HNZ.out, HOZ.out, HX.out⟩
          case measure => simp [intOf]; omega
    · obtain rfl : i = M := by omega
      have HX : Hid (out.map B17.p = trim17 (L.map B17.p) lo hi mark) := by
        show _ = _
        rw [HSP.out, List.take_of_length_le (Nat.le_of_eq HM.out.symm)]
      go_wp2
      go_ret
      exact ⟨_, out, rfl, HX.out, off_rd17 HOF.out HNW.out.own.rd, HT1.out.trans HNW.out.turn (fun _ _ f => f)⟩

end Go.Proofs.Ytgchfckmhibeaaa

/-
  Stage 17: the program's wal answers as is asked of it.
-/
namespace Go.Proofs.Ytgchfckmhibeaaa
open Go.RowKit

theorem prog17 : Prog17 where
  right b n w h1 h2 h3 := right_anyP17 b n w h1 h2 h3
  record b n w h1 h2 h3 := record_any17 b n w h1 h2 h3
  replay v d n w h1 h2 := replay_any17 v d n w h1 h2
  bytes v L n w h1 h2 h3 := bytes_any17 v L n w h1 h2 h3
  trim v L lo hi mark w h1 h2 := trim_any17 v L lo hi mark w h1 h2
  facts v L lo hi w h1 h2 := facts_any17 v L lo hi w h1 h2
end Go.Proofs.Ytgchfckmhibeaaa

/-
  Stage 9: keys and facts that came in.
-/
namespace Go.Proofs.Ytgchfckmhibeaaa
open Go.RowKit Go.ChangeShapes Go.WideShapes Go.Deep

set_option maxRecDepth 100000

theorem open_text9 {H : Type} {enc : TypeId × Value → H} {W : World} {n : Nat} {c0 : Value} {y : DataW H × List MemPlace} (h : DataW.trod enc Try.prog W 0 (fun _ => true) true n 9 [c0] = some y) : ∃ a : List UInt8, c0 = sv9 a := by
  obtain ⟨S, k2, _, sw⟩ := DataW.trod_string Try.underlying9 h
  simp only [List.cons.injEq, and_true] at k2
  exact ⟨S.data.toList, k2⟩
theorem open_texts9 {H : Type} {enc : TypeId × Value → H} {W : World} {n : Nat} {c0 c1 c2 c3 : Value} {y : DataW H × List MemPlace} (h : DataW.trod enc Try.prog W 0 (fun _ => true) true n 72 [c0, c1, c2, c3] = some y) :
    ∃ a b c d : List UInt8, c0 = sv9 a ∧ c1 = sv9 b ∧ c2 = sv9 c ∧ c3 = sv9 d := by
  obtain ⟨y0, y1, y2, y3, n', _, h0, h1, h2, h3⟩ := trod_array4 Try.underlying72 (by kernel_rfl) h
  obtain ⟨a, ha⟩ := open_text9 h0
  obtain ⟨b, hb⟩ := open_text9 h1
  obtain ⟨c, hc⟩ := open_text9 h2
  obtain ⟨d, hd⟩ := open_text9 h3
  exact ⟨a, b, c, d, ha, hb, hc, hd⟩
theorem open_keyc {H : Type} {enc : TypeId × Value → H} {W : World} {n : Nat} {cs : List Value} {y : DataW H × List MemPlace} (hl : cs.length = 5) (h : DataW.trod enc Try.prog W 0 (fun _ => true) true n 74 cs = some y) :
    ∃ k : K9, cs = [.int .i64 k.h, sv9 k.a, sv9 k.b, sv9 k.c, sv9 k.d] := by
  obtain ⟨y0, y1, n', _, _, g0, g1⟩ := trod_struct2 Try.underlying74 h
  have e1 : Try.prog.cellsOf 2 = 1 := by kernel_rfl
  have e4 : Try.prog.cellsOf 72 = 4 := by kernel_rfl
  match cs, hl with
  | [c0, c1, c2, c3, c4], _ =>
    simp [e1, e4] at g0 g1
    obtain ⟨K, k0, _, kw⟩ := DataW.trod_int Try.underlying2 g0
    simp only [List.cons.injEq, and_true] at k0
    subst k0
    obtain ⟨a, b, c, d, rfl, rfl, rfl, rfl⟩ := open_texts9 g1
    exact ⟨⟨K, a, b, c, d⟩, rfl⟩
theorem open_key9 {H : Type} {enc : TypeId × Value → H} {W : World} {b0 : Nat} {v : Value} {d : DataW H} {p : List MemPlace} (hv : Value.okWide Try.prog W .any b0 74 v) (h : DataW.Trod enc Try.prog W 0 (fun _ => true) true 74 v d p) : ∃ k : K9, v = kv9 k := by
  simp only [Value.okWide, Try.underlying74] at hv
  obtain ⟨cs, rfl, hsz, _⟩ := hv
  obtain ⟨fuel, hf⟩ := h
  have e5 : Try.prog.cellsOf 74 = 5 := by kernel_rfl
  obtain ⟨k, hk⟩ := open_keyc (by show (Value.cells (.agg cs)).toList.length = 5; simp [Value.cells]; omega) hf
  refine ⟨k, ?_⟩
  have hk2 : cs.toList = [.int .i64 k.h, sv9 k.a, sv9 k.b, sv9 k.c, sv9 k.d] := hk
  have hk3 : cs = #[.int .i64 k.h, sv9 k.a, sv9 k.b, sv9 k.c, sv9 k.d] := by rw [← Array.toList_inj]; exact hk2
  rw [hk3]
theorem open_factc {H : Type} {enc : TypeId × Value → H} {W : World} (n : Nat) (cs : List Value) (y : DataW H × List MemPlace) (hl : cs.length = EF.sz) (h : DataW.trod enc Try.prog W 0 (fun _ => true) true n 76 cs = some y) :
    ∃ f : F9, cs = EF.enc f ∧ (Lit.int .i64 f.v).wf = true := by
  obtain ⟨y0, y1, n', _, _, g0, g1⟩ := trod_struct2 Try.underlying76 h
  have e1 : Try.prog.cellsOf 2 = 1 := by kernel_rfl
  have e5 : Try.prog.cellsOf 74 = 5 := by kernel_rfl
  match cs, hl with
  | [c0, c1, c2, c3, c4, c5], _ =>
    simp [e1, e5] at g0 g1
    obtain ⟨K, k0, _, kw⟩ := DataW.trod_int Try.underlying2 g1
    simp only [List.cons.injEq, and_true] at k0
    subst k0
    obtain ⟨k, hk⟩ := open_keyc rfl g0
    simp only [List.cons.injEq, and_true] at hk
    obtain ⟨rfl, rfl, rfl, rfl, rfl⟩ := hk
    exact ⟨⟨k, K⟩, rfl, kw⟩
theorem open_facts9 {H : Type} {enc : TypeId × Value → H} {W : World} {v : Value} {d : DataW H} {p : List MemPlace} {a : Option Addr} {len cap : Nat} (hv : v = .slice a len cap)
    (h : DataW.Trod enc Try.prog W 0 (fun _ => true) true 43 v d p) : ∃ l : List F9, RdE EF W v l ∧ l.length ≤ maxLen ∧ ∀ f ∈ l, (Lit.int .i64 f.v).wf = true :=
  open_elems EF _ Try.underlying43 (by kernel_rfl) hv h open_factc

end Go.Proofs.Ytgchfckmhibeaaa
