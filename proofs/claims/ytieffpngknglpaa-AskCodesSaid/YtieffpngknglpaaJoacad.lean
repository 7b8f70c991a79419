/-
  Texts laid one behind the other: Ea Eg.
-/
import Derived.Test.YtieffpngknglpaaJoacac
import Derived.Test.YtieffpngknglpaaJoacab
import Derived.Deep.RegionHeld3

/-
  Rows of elements of any size, new since a world; tails of slices of any size. No type is named here.
-/
namespace Go.Proofs.Ytieffpngknglpaa
open Go.RowKit

section
variable {T : Type} {E : El T} {e : TypeId}
/-- The tail of a slice from place U on, in whatever shape it is cut. -/
def TailE (E : El T) (A : Option Addr) (n c U : Nat) (v : Value) : Prop :=
  (A = none ∧ v = .slice none 0 0) ∨ (∃ ad, A = some ad ∧ ¬ c ≤ U ∧ v = .slice (some (ad.add (U * E.sz))) (n - U) (c - U)) ∨ (∃ ad, A = some ad ∧ c ≤ U ∧ v = .slice (some ad) (n - U) 0)
theorem tailE_rd {w : World} {A : Option Addr} {c U : Nat} {L : List T} (h : RdE E w (.slice A L.length c) L) (hU : U ≤ L.length) (w' : World) (ht : Turn (fun _ => False) w w') {v : Value}
    (hv : TailE E A L.length c U v) : RdE E w' v (L.drop U) := by
  have hf := h.fits
  rcases hv with ⟨rfl, rfl⟩ | ⟨ad, rfl, _, rfl⟩ | ⟨ad, rfl, hc, rfl⟩
  · rw [(hf.2.2.2 rfl).1, List.drop_nil]
    exact RdE.nil w'
  · exact (h.back U hU).later ht
  · have e : L.drop U = [] := List.eq_nil_of_length_eq_zero (by rw [List.length_drop]; omega)
    rw [e, show L.length - U = 0 by omega]
    exact RdE.none_left _ (by simp) w' 0 (Nat.zero_le _)
theorem frontE_rd {w : World} {A : Option Addr} {c P : Nat} {L : List T} (h : RdE E w (.slice A L.length c) L) (hP : P ≤ L.length) (w' : World) (ht : Turn (fun _ => False) w w') :
    RdE E w' (.slice A P c) (L.take P) := (h.front P hP).later ht
/-- A row of a call's own, new since w. -/
structure NewE (E : El T) (e : TypeId) (w w' : World) (v : Value) (L : List T) : Prop where
  own : OwE E e w' v L
  new : ∀ k, v.ownBlock = some k → w.heap.size ≤ k
  turn : Turn (fun _ => False) w w'
theorem NewE.start (w : World) (n : Nat) : NewE E e w (w.drewN n) (.slice none 0 0) [] := ⟨OwE.nil _, (fun k e => by simp [Value.ownBlock] at e), (Turn.refl _ w).drewN n⟩
theorem NewE.empty (w w0 : World) (h : Turn (fun _ => False) w w0) : NewE E e w (w0.alloc (.cells #[] e)) (.slice (some ⟨w0.heap.size, 0, none⟩) 0 0) [] :=
  ⟨OwE.made (E := E) w0 [] (Nat.zero_le _), (fun k e => Nat.le_trans h.size (Nat.le_of_eq (by simpa [Value.ownBlock] using e))), h.alloc _⟩
theorem NewE.step {w w1 w2 : World} {v v2 : Value} {L M : List T} (h : NewE E e w w1 v L) (ho : OwE E e w2 v2 M) (ht : Turn (fun k => v.ownBlock = some k) w1 w2) (hn : v2.ownBlock = v.ownBlock ∨ v2.ownBlock = some w1.heap.size) : NewE E e w w2 v2 M := by
  refine ⟨ho, fun k hk => ?_, h.turn.trans ht (fun k hk e => ?_)⟩
  · rcases hn with e | e
    · exact h.new k (by rw [← e]; exact hk)
    · rw [hk] at e
      cases e
      exact h.turn.size
  · have := h.new k e
    omega
theorem NewE.alloc {w w1 : World} {v : Value} {L : List T} (h : NewE E e w w1 v L) (o : Obj) : NewE E e w (w1.alloc o) v L :=
  ⟨h.own.later ((Turn.refl _ w1).alloc o), h.new, h.turn.alloc o⟩
theorem NewE.later {w w1 w2 : World} {v : Value} {L : List T} (h : NewE E e w w1 v L) (ht : Turn (fun _ => False) w1 w2) : NewE E e w w2 v L :=
  ⟨h.own.later ht, h.new, h.turn.trans ht (fun _ _ f => f)⟩
end

end Go.Proofs.Ytieffpngknglpaa

/-
  A region that draws its order and some of whose operations, the late ones (stores), wait for all that read: a condition on the world holds till then. No type is named here.
-/
namespace Go.Proofs.Ytieffpngknglpaa
open Go.RowKit

section
variable {P : Program} {ops : Array Oper} {Q : Exit → Act → World → Prop} {md : Region.Mode} {S : World → Prop} {zs : List Nat}

/-- What is listed has all listed that it waits for. -/
def Shutd (md : Region.Mode) (ops : Array Oper) (listed : Array Bool) : Prop :=
  ∀ k o, ops[k]? = some o → listed.getD k false = true → ∀ e ∈ o.after, Region.binds md e = true → listed.getD e.on false = true
theorem Shutd.start : Shutd md ops (Array.replicate ops.size false) := fun k o ho h => by
  have hk := (Array.getElem?_eq_some_iff.1 ho).1
  simp [hk] at h
theorem Shutd.step {listed : Array Bool} {i : Nat} (h : Shutd md ops listed) (hi : i ∈ Region.ready md ops listed) : Shutd md ops (listed.setIfInBounds i true) := fun k o ho hk e he hb => by
  by_cases e1 : i = k
  · subst e1
    obtain ⟨_, o', ho', hall⟩ := mem_ready.1 hi
    rw [ho] at ho'
    cases ho'
    exact getD_set_true (hall e he hb)
  · rw [getD_set_ne false e1] at hk
    exact getD_set_true (h k o ho hk e he hb)
/-- Operation k waits for i, in so many steps at most. -/
def waitsB (md : Region.Mode) (ops : Array Oper) : Nat → Nat → Nat → Bool
  | 0, _, _ => false
  | f + 1, k, i => match ops[k]? with
    | none => false
    | some o => o.after.any fun e => Region.binds md e && (e.on == i || waitsB md ops f e.on i)
theorem waits_listed {listed : Array Bool} (h : Shutd md ops listed) : ∀ (f k i : Nat), waitsB md ops f k i = true →
    (∃ o, ops[k]? = some o ∧ ∀ e ∈ o.after, Region.binds md e = true → listed.getD e.on false = true) → listed.getD i false = true
  | 0, _, _, hw, _ => by simp [waitsB] at hw
  | f + 1, k, i, hw, ⟨o, ho, hall⟩ => by
    simp only [waitsB, ho] at hw
    obtain ⟨e, he, hb⟩ := Array.any_eq_true'.1 hw
    simp only [Bool.and_eq_true, Bool.or_eq_true, beq_iff_eq] at hb
    have hl := hall e he hb.1
    rcases hb.2 with e1 | e1
    · rw [← e1]; exact hl
    · refine waits_listed h f e.on i e1 ?_
      cases ho2 : ops[e.on]? with
      | none =>
        cases f with
        | zero => simp [waitsB] at e1
        | succ f => simp [waitsB, ho2] at e1
      | some o2 => exact ⟨o2, rfl, fun e2 h2 b2 => h _ o2 ho2 hl e2 h2 b2⟩
theorem not_before {listed : Array Bool} {f i z : Nat} (h : Shutd md ops listed) (hw : waitsB md ops f z i = true) (hi : i ∈ Region.ready md ops listed) : z ∉ Region.ready md ops listed := fun hz => by
  obtain ⟨_, o, ho, hall⟩ := mem_ready.1 hz
  have h1 := waits_listed h f z i hw ⟨o, ho, hall⟩
  have h0 := (mem_ready.1 hi).1
  rcases Nat.lt_or_ge i listed.size with h' | h'
  · simp [h'] at h0 h1; rw [h0] at h1; cases h1
  · simp [Array.getElem?_eq_none h'] at h1

/-- No late operation is listed. -/
def freshB (zs : List Nat) (listed : Array Bool) : Bool := zs.all fun z => !listed.getD z false
theorem fresh_set {listed : Array Bool} {i : Nat} (hi : zs.contains i = false) : freshB zs (listed.setIfInBounds i true) = freshB zs listed := by
  unfold freshB
  rw [Bool.eq_iff_iff, List.all_eq_true, List.all_eq_true]
  refine forall_congr' fun z => forall_congr' fun hz => ?_
  have hne : i ≠ z := fun e => by subst e; simp at hi; exact hi hz
  rw [getD_set_ne false hne]
theorem fresh_of {listed : Array Bool} {i f : Nat} (h : Shutd md ops listed) (hw : zs.all (fun z => waitsB md ops f z i) = true) (hi : listed.getD i true = false) : freshB zs listed = true := by
  unfold freshB
  rw [List.all_eq_true]
  intro z hz
  have hwz := List.all_eq_true.1 hw z hz
  cases hl : listed.getD z false with
  | false => rfl
  | true =>
    have hk : ∃ o, ops[z]? = some o := by
      cases ho : ops[z]? with
      | none => cases f with
        | zero => simp [waitsB] at hwz
        | succ f => simp [waitsB, ho] at hwz
      | some o => exact ⟨o, rfl⟩
    obtain ⟨o, ho⟩ := hk
    have h1 := waits_listed h f z i hwz ⟨o, ho, fun e he hb => h z o ho hl e he hb⟩
    rcases Nat.lt_or_ge i listed.size with h' | h'
    · simp [h'] at hi h1; rw [hi] at h1; cases h1
    · simp [Array.getElem?_eq_none h'] at h1

/-- Whatever order is picked from here on, and S holds as long as no late operation is listed. -/
def wpAnyG (P : Program) (md : Region.Mode) (ops : Array Oper) (Q : Exit → Act → World → Prop) (S : World → Prop) (zs : List Nat) : Nat → Array Bool → Act → World → Prop
  | 0, listed, a, w => Region.ready md ops listed = [] ∧ Q .normal a w
  | fuel + 1, listed, a, w =>
    (Region.ready md ops listed = [] → Q .normal a w) ∧
    ∀ i ∈ Region.ready md ops listed, wpOp P ops Q i (fun a' w' => (freshB zs (listed.setIfInBounds i true) = true → S w') ∧ wpAnyG P md ops Q S zs fuel (listed.setIfInBounds i true) a' w') a w
theorem wpAny_ofG : ∀ (fuel : Nat) (listed : Array Bool) (a : Act) (w : World), wpAnyG P md ops Q S zs fuel listed a w → wpAny P md ops Q fuel listed a w
  | 0, _, _, _, h => h
  | fuel + 1, _, _, _, h => ⟨h.1, fun i hi => wpOp_mono (fun a' w' h' => wpAny_ofG fuel _ a' w' h'.2) (h.2 i hi)⟩

/-- An operation that yields, where S holds, comes first: T is what it wants of a world. -/
theorem wpAnyG_first {i : Nat} {oi : Oper} {v : Value} (hi : ops[i]? = some oi) (hsel : ∀ (j : Nat) (o : Oper) cs b, ops[j]? = some o → o.op ≠ .select cs b)
    (hQ : ∀ c a w, Q (.panic c) (a.put oi.dst v) w → Q (.panic c) a w) (hiz : zs.contains i = false) (T : World → Prop)
    (hR : ∀ listed w, Shutd md ops listed → i ∈ Region.ready md ops listed → (freshB zs listed = true → S w) → T w) :
    ∀ (fuel : Nat) (listed : Array Bool) (a : Act) (w : World), Shutd md ops listed →
      (∀ j oj, ops[j]? = some oj → j ≠ i → listed.getD j true = false → (∀ e ∈ oj.after, Region.binds md e = true → e.on ≠ i) → oi.apart ops oj = true) →
      i ∈ Region.ready md ops listed → YieldsIf P ops T oi v a → (freshB zs listed = true → S w) →
      wpAnyG P md ops Q S zs fuel (listed.setIfInBounds i true) (a.put oi.dst v) w → wpAnyG P md ops Q S zs (fuel + 1) listed a w := by
  intro fuel
  induction fuel with
  | zero =>
    intro listed a w hsh _ hr hy hS H
    refine ⟨fun h => (by rw [h] at hr; cases hr), fun j hj => ?_⟩
    by_cases hji : j = i
    · subst hji; exact hy.wpOp hi (hR _ w hsh hr hS) ⟨fun hf => hS (by rwa [fresh_set hiz] at hf), H⟩
    · have := ready_mono hj hji
      rw [H.1] at this
      cases this
  | succ fuel ih =>
    intro listed a w hsh hfree hr hy hS H
    refine ⟨fun h => (by rw [h] at hr; cases hr), fun j hj => ?_⟩
    by_cases hji : j = i
    · subst hji; exact hy.wpOp hi (hR _ w hsh hr hS) ⟨fun hf => hS (by rwa [fresh_set hiz] at hf), H⟩
    · have h1 := H.2 j (ready_mono hj hji)
      obtain ⟨hjun, oj, hoj, hall⟩ := mem_ready.1 hj
      have hnot : ∀ e ∈ oj.after, Region.binds md e = true → e.on ≠ i := fun e he hb heq => by
        have h1 := hall e he hb
        have h0 := (mem_ready.1 hr).1
        rw [heq] at h1
        rcases Nat.lt_or_ge i listed.size with h' | h'
        · simp [h'] at h0 h1; rw [h0] at h1; cases h1
        · simp [Array.getElem?_eq_none h'] at h1
      have h2 := wpOp_putIf hoj (hfree j oj hoj hji hjun hnot) (fun cs b => hsel i oi cs b hi) (fun cs b => hsel j oj cs b hoj) hQ hy h1
      have hfree' : ∀ k ok, ops[k]? = some ok → k ≠ i → (listed.setIfInBounds j true).getD k true = false →
          (∀ e ∈ ok.after, Region.binds md e = true → e.on ≠ i) → oi.apart ops ok = true := fun k ok hk hki hun hno => by
        refine hfree k ok hk hki ?_ hno
        by_cases hjk : j = k
        · subst hjk; exact hjun
        · rw [getD_set_ne true hjk] at hun; exact hun
      have hsw : ∀ w', (freshB zs ((listed.setIfInBounds i true).setIfInBounds j true) = true → S w') → freshB zs (listed.setIfInBounds j true) = true → S w' := fun w' h hf => by
        rw [Array.setIfInBounds_comm _ _ (Ne.symm hji), fresh_set hiz] at h
        exact h hf
      refine wpOp_mono (fun a' w' h3 => ⟨hsw w' h3.2.1, ih (listed.setIfInBounds j true) a' w' (hsh.step hj) hfree' (ready_mono hr (Ne.symm hji)) h3.1 (hsw w' h3.2.1) ?_⟩) h2
      rw [Array.setIfInBounds_comm _ _ hji]
      exact h3.2.2

/-- An operation of a region that is written out, as it is written. -/
def nthL {A : Type} : List A → Nat → Option A
  | [], _ => none
  | x :: _, 0 => some x
  | _ :: l, n + 1 => nthL l n
theorem nthL_eq {A : Type} : ∀ (l : List A) (n : Nat), nthL l n = l[n]?
  | [], n => by simp [nthL]
  | x :: l, 0 => rfl
  | x :: l, n + 1 => by rw [nthL, nthL_eq l n, List.getElem?_cons_succ]
theorem nth_at {ops : Array Oper} {i : Nat} {o : Oper} (h : nthL ops.toList i = some o) : ops[i]? = some o := by
  rw [nthL_eq] at h
  simpa using h

/-- The walk: a region behind some operations. -/
def Drawn (P : Program) (ops : Array Oper) (Q : Exit → Act → World → Prop) (S : World → Prop) (zs : List Nat) (fuel : Nat) (listed : Array Bool) (ts : Array Value) (ds : List Deferred) (w : World) : Prop :=
  Shutd .any ops listed → wpAnyG P .any ops Q S zs fuel listed { tmps := ts, defers := ds } w
theorem drawn_region (S : World → Prop) (zs : List Nat) {id : Nat} {ts : Array Value} {ds : List Deferred} {w : World} (hm : P.follows .mixedOrders = true) (h : Drawn P ops Q S zs ops.size (Array.replicate ops.size false) ts ds w.drew) : (Code.region id ops true).wp P Q { tmps := ts, defers := ds } w :=
  wp_region_any hm (wpAny_ofG _ _ _ _ (h Shutd.start))
/-- An operation that reads: late ones wait for it. -/
theorem drawn_take (i d : Nat) {oi : Oper} (v : Value) {fuel : Nat} {listed : Array Bool} {ts : Array Value} {ds : List Deferred} {w : World} (hi0 : nthL ops.toList i = some oi) (hd : oi.dst = some d)
    (hs : Region.noSelect ops = true) (hf : Region.free .any ops listed i = true) (hr : (Region.ready .any ops listed).contains i = true) (hz : (!zs.contains i && zs.all (fun z => waitsB .any ops ops.size z i)) = true)
    (hQ : ∀ c (a : Act) w, Q (.panic c) (a.put oi.dst v) w → Q (.panic c) a w) (hw : Region.wanted oi (yielded ops ts) = true) (hS : S w) (hy : ∀ w, S w → (execOp ({ tmps := ts, defers := ds } : Act).eval oi).run P w = .ok (.value v) w)
    (h : Drawn P ops Q S zs fuel (listed.setIfInBounds i true) (ts.setIfInBounds d v) ds w) : Drawn P ops Q S zs (fuel + 1) listed ts ds w := fun hc => by
  have hi := nth_at hi0
  have hm : i ∈ Region.ready .any ops listed := by simpa using hr
  obtain ⟨hz1, hz2⟩ := Bool.and_eq_true_iff.1 hz
  refine wpAnyG_first hi (Region.noSelect_spec hs) hQ (by simpa using hz1) S (fun l w hsh hir h => h (fresh_of hsh hz2 (mem_ready.1 hir).1)) fuel listed _ w hc (Region.free_spec hi hf) hm (.inl ⟨hw, hy⟩) (fun _ => hS) ?_
  have h2 := h (hc.step hm)
  rw [hd]
  exact h2
/-- An operation that yields in whatever world. -/
theorem drawn_move (i d : Nat) {oi : Oper} (v : Value) {fuel : Nat} {listed : Array Bool} {ts : Array Value} {ds : List Deferred} {w : World} (hi0 : nthL ops.toList i = some oi) (hd : oi.dst = some d)
    (hs : Region.noSelect ops = true) (hf : Region.free .any ops listed i = true) (hr : (Region.ready .any ops listed).contains i = true) (hz : (!zs.contains i) = true)
    (hQ : ∀ c (a : Act) w, Q (.panic c) (a.put oi.dst v) w → Q (.panic c) a w) (hw : Region.wanted oi (yielded ops ts) = true) (hS : freshB zs listed = true → S w) (hy : ∀ w, (execOp ({ tmps := ts, defers := ds } : Act).eval oi).run P w = .ok (.value v) w)
    (h : Drawn P ops Q S zs fuel (listed.setIfInBounds i true) (ts.setIfInBounds d v) ds w) : Drawn P ops Q S zs (fuel + 1) listed ts ds w := fun hc => by
  have hi := nth_at hi0
  have hm : i ∈ Region.ready .any ops listed := by simpa using hr
  refine wpAnyG_first hi (Region.noSelect_spec hs) hQ (by simpa using hz) (fun _ => True) (fun _ _ _ _ _ => trivial) fuel listed _ w hc (Region.free_spec hi hf) hm (.inl ⟨hw, fun w _ => hy w⟩) hS ?_
  have h2 := h (hc.step hm)
  rw [hd]
  exact h2
/-- Whichever of some comes up. -/
def DrawnAll (P : Program) (ops : Array Oper) (Q : Exit → Act → World → Prop) (S : World → Prop) (zs : List Nat) (fuel : Nat) (listed : Array Bool) (ts : Array Value) (ds : List Deferred) (w : World) (rs : List Nat) : Prop :=
  Shutd .any ops listed → ∀ i ∈ rs, i ∈ Region.ready .any ops listed → wpOp P ops Q i (fun a' w' => (freshB zs (listed.setIfInBounds i true) = true → S w') ∧ wpAnyG P .any ops Q S zs fuel (listed.setIfInBounds i true) a' w') { tmps := ts, defers := ds } w
theorem drawn_any (rs : List Nat) {fuel : Nat} {listed : Array Bool} {ts : Array Value} {ds : List Deferred} {w : World} (hr : Region.ready .any ops listed = rs) (hne : rs ≠ []) (h : DrawnAll P ops Q S zs fuel listed ts ds w rs) : Drawn P ops Q S zs (fuel + 1) listed ts ds w :=
  fun hc => ⟨fun h0 => absurd (hr ▸ h0) hne, fun i hi => h hc i (hr ▸ hi) hi⟩
theorem drawn_nil {fuel : Nat} {listed : Array Bool} {ts : Array Value} {ds : List Deferred} {w : World} : DrawnAll P ops Q S zs fuel listed ts ds w [] := fun _ _ h => by cases h
/-- One that is not late: S is shown behind it. -/
theorem drawn_cons {fuel : Nat} {listed : Array Bool} {ts : Array Value} {ds : List Deferred} {w : World} {i : Nat} {o : Oper} {rs : List Nat} (ho0 : nthL ops.toList i = some o)
    (h : ∀ K : Act → World → Prop, Shut (∀ (ts : Array Value) (ds : List Deferred) w, S w → Drawn P ops Q S zs fuel (listed.setIfInBounds i true) ts ds w → K { tmps := ts, defers := ds } w) → if Region.wanted o (yielded ops ts) = true then Oper.wp P o { tmps := ts, defers := ds } w K Q else K (({ tmps := ts, defers := ds } : Act).put o.dst undef) w)
    (hs : DrawnAll P ops Q S zs fuel listed ts ds w rs) : DrawnAll P ops Q S zs fuel listed ts ds w (i :: rs) := fun hc j hj hr => by
  rcases List.mem_cons.1 hj with rfl | hj
  · exact wpOp_step (nth_at ho0) (fun K' hK => h K' (fun ts ds w hS hW => hK { tmps := ts, defers := ds } w ⟨fun _ => hS, hW (hc.step hr)⟩))
  · exact hs hc j hj hr
/-- One that is late, or behind a late one, with more to come. -/
theorem drawn_late {fuel : Nat} {listed : Array Bool} {ts : Array Value} {ds : List Deferred} {w : World} {i : Nat} {o : Oper} {rs : List Nat} (ho0 : nthL ops.toList i = some o) (hl : freshB zs (listed.setIfInBounds i true) = false)
    (h : ∀ K : Act → World → Prop, Shut (∀ (ts : Array Value) (ds : List Deferred) w, Drawn P ops Q S zs fuel (listed.setIfInBounds i true) ts ds w → K { tmps := ts, defers := ds } w) → if Region.wanted o (yielded ops ts) = true then Oper.wp P o { tmps := ts, defers := ds } w K Q else K (({ tmps := ts, defers := ds } : Act).put o.dst undef) w)
    (hs : DrawnAll P ops Q S zs fuel listed ts ds w rs) : DrawnAll P ops Q S zs fuel listed ts ds w (i :: rs) := fun hc j hj hr => by
  rcases List.mem_cons.1 hj with rfl | hj
  · exact wpOp_step (nth_at ho0) (fun K' hK => h K' (fun ts ds w hW => hK { tmps := ts, defers := ds } w ⟨fun hf => by rw [hl] at hf; (cases hf), hW (hc.step hr)⟩))
  · exact hs hc j hj hr
/-- The last. -/
theorem drawn_last {z fuel : Nat} {listed : Array Bool} {ts : Array Value} {ds : List Deferred} {w : World} {o : Oper} (ho0 : nthL ops.toList z = some o) (hr : Region.ready .any ops listed = [z]) (hr2 : Region.ready .any ops (listed.setIfInBounds z true) = []) (hl : freshB zs (listed.setIfInBounds z true) = false)
    (h : ∀ K : Act → World → Prop, Shut (∀ a w, Q .normal a w → K a w) → if Region.wanted o (yielded ops ts) = true then Oper.wp P o { tmps := ts, defers := ds } w K Q else K (({ tmps := ts, defers := ds } : Act).put o.dst undef) w) :
    Drawn P ops Q S zs (fuel + 1) listed ts ds w := fun _ => by
  refine ⟨fun h0 => (by rw [h0] at hr; cases hr), fun i hi => ?_⟩
  rw [hr] at hi
  obtain rfl := List.mem_singleton.1 hi
  refine wpOp_step (nth_at ho0) (fun K' hK => h K' (fun a w hq => hK a w ⟨fun hf => by rw [hl] at hf; (cases hf), ?_⟩))
  cases fuel with
  | zero => exact ⟨hr2, hq⟩
  | succ n => exact ⟨fun _ => hq, by rw [hr2]; simp⟩
/-- The last, one that yields in whatever world. -/
theorem drawn_last1 (z d : Nat) {o : Oper} (v : Value) {fuel : Nat} {listed : Array Bool} {ts : Array Value} {ds : List Deferred} {w : World} (ho0 : nthL ops.toList z = some o) (hd : o.dst = some d) (hr : Region.ready .any ops listed = [z]) (hr2 : Region.ready .any ops (listed.setIfInBounds z true) = [])
    (hw : Region.wanted o (yielded ops ts) = true) (hy : ∀ w, (execOp ({ tmps := ts, defers := ds } : Act).eval o).run P w = .ok (.value v) w) (hS : S w)
    (h : Q .normal { tmps := ts.setIfInBounds d v, defers := ds } w) : Drawn P ops Q S zs (fuel + 1) listed ts ds w := fun _ => by
  refine ⟨fun h0 => (by rw [h0] at hr; cases hr), fun i hi => ?_⟩
  rw [hr] at hi
  obtain rfl := List.mem_singleton.1 hi
  have hi := nth_at ho0
  have key : Q .normal ((({ tmps := ts, defers := ds } : Act)).put o.dst v) w := by rw [hd]; exact h
  refine Yields.wpOp hi (.inl ⟨hw, hy⟩) ⟨fun _ => hS, ?_⟩
  cases fuel with
  | zero => exact ⟨hr2, key⟩
  | succ n => exact ⟨fun _ => key, by rw [hr2]; simp⟩
end

end Go.Proofs.Ytieffpngknglpaa
