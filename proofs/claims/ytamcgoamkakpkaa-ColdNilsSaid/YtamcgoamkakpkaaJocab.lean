/-
  Texts laid one behind the other: Eg Er Eh Q4a Ey Q4b Q4c Q4d.
-/
import Derived.Test.YtamcgoamkakpkaaJocaa
import Derived.Deep.RegionHeld3
import Derived.Deep.MidRow
import Derived.Laws.Slices
import Derived.BigQuiet

/-
  A region that draws its order and some of whose operations, the late ones (stores), wait for all that read: a condition on the world holds till then. No type is named here.
-/
namespace Go.Proofs.Ytamcgoamkakpkaa
open Go.RowKit

section
variable {P : Program} {ops : Array Oper} {Q : Exit → Act → World → Prop} {md : Region.Mode} {S : World → Prop} {zs : List Nat}

/-- What is listed has all listed that it waits for. -/
def Shutd (md : Region.Mode) (ops : Array Oper) (listed : Array Bool) : Prop :=
  ∀ k o, ops[k]? = some o → listed.getD k false = true → ∀ e ∈ o.after, Region.binds md e = true → listed.getD e.on false = true
theorem Shutd.start : Shutd md ops (Array.replicate ops.size false) := fun k o ho h => by
  have hk := (Array.getElem?_eq_some_iff.1 ho).1
  simp [hk] at h
theorem Shutd.step {listed : Array Bool} {i : Nat} (h : Shutd md ops listed) (hi : i ∈ Region.ready md ops listed) : Shutd md ops (listed.setIfInBounds i true) := fun k o ho hk e he hb => by
  by_cases e1 : i = k
  · subst e1
    obtain ⟨_, o', ho', hall⟩ := mem_ready.1 hi
    rw [ho] at ho'
    cases ho'
    exact getD_set_true (hall e he hb)
  · rw [getD_set_ne false e1] at hk
    exact getD_set_true (h k o ho hk e he hb)
/-- Operation k waits for i, in so many steps at most. -/
def waitsB (md : Region.Mode) (ops : Array Oper) : Nat → Nat → Nat → Bool
  | 0, _, _ => false
  | f + 1, k, i => match ops[k]? with
    | none => false
    | some o => o.after.any fun e => Region.binds md e && (e.on == i || waitsB md ops f e.on i)
theorem waits_listed {listed : Array Bool} (h : Shutd md ops listed) : ∀ (f k i : Nat), waitsB md ops f k i = true →
    (∃ o, ops[k]? = some o ∧ ∀ e ∈ o.after, Region.binds md e = true → listed.getD e.on false = true) → listed.getD i false = true
  | 0, _, _, hw, _ => by simp [waitsB] at hw
  | f + 1, k, i, hw, ⟨o, ho, hall⟩ => by
    simp only [waitsB, ho] at hw
    obtain ⟨e, he, hb⟩ := Array.any_eq_true'.1 hw
    simp only [Bool.and_eq_true, Bool.or_eq_true, beq_iff_eq] at hb
    have hl := hall e he hb.1
    rcases hb.2 with e1 | e1
    · rw [← e1]; exact hl
    · refine waits_listed h f e.on i e1 ?_
      cases ho2 : ops[e.on]? with
      | none =>
        cases f with
        | zero => simp [waitsB] at e1
        | succ f => simp [waitsB, ho2] at e1
      | some o2 => exact ⟨o2, rfl, fun e2 h2 b2 => h _ o2 ho2 hl e2 h2 b2⟩
theorem not_before {listed : Array Bool} {f i z : Nat} (h : Shutd md ops listed) (hw : waitsB md ops f z i = true) (hi : i ∈ Region.ready md ops listed) : z ∉ Region.ready md ops listed := fun hz => by
  obtain ⟨_, o, ho, hall⟩ := mem_ready.1 hz
  have h1 := waits_listed h f z i hw ⟨o, ho, hall⟩
  have h0 := (mem_ready.1 hi).1
  rcases Nat.lt_or_ge i listed.size with h' | h'
  · simp [h'] at h0 h1; rw [h0] at h1; cases h1
  · simp [Array.getElem?_eq_none h'] at h1

/-- No late operation is listed. -/
def freshB (zs : List Nat) (listed : Array Bool) : Bool := zs.all fun z => !listed.getD z false
theorem fresh_set {listed : Array Bool} {i : Nat} (hi : zs.contains i = false) : freshB zs (listed.setIfInBounds i true) = freshB zs listed := by
  unfold freshB
  rw [Bool.eq_iff_iff, List.all_eq_true, List.all_eq_true]
  refine forall_congr' fun z => forall_congr' fun hz => ?_
  have hne : i ≠ z := fun e => by subst e; simp at hi; exact hi hz
  rw [getD_set_ne false hne]
theorem fresh_of {listed : Array Bool} {i f : Nat} (h : Shutd md ops listed) (hw : zs.all (fun z => waitsB md ops f z i) = true) (hi : listed.getD i true = false) : freshB zs listed = true := by
  unfold freshB
  rw [List.all_eq_true]
  intro z hz
  have hwz := List.all_eq_true.1 hw z hz
  cases hl : listed.getD z false with
  | false => rfl
  | true =>
    have hk : ∃ o, ops[z]? = some o := by
      cases ho : ops[z]? with
      | none => cases f with
        | zero => simp [waitsB] at hwz
        | succ f => simp [waitsB, ho] at hwz
      | some o => exact ⟨o, rfl⟩
    obtain ⟨o, ho⟩ := hk
    have h1 := waits_listed h f z i hwz ⟨o, ho, fun e he hb => h z o ho hl e he hb⟩
    rcases Nat.lt_or_ge i listed.size with h' | h'
    · simp [h'] at hi h1; rw [hi] at h1; cases h1
    · simp [Array.getElem?_eq_none h'] at h1

/-- Whatever order is picked from here on, and S holds as long as no late operation is listed. -/
def wpAnyG (P : Program) (md : Region.Mode) (ops : Array Oper) (Q : Exit → Act → World → Prop) (S : World → Prop) (zs : List Nat) : Nat → Array Bool → Act → World → Prop
  | 0, listed, a, w => Region.ready md ops listed = [] ∧ Q .normal a w
  | fuel + 1, listed, a, w =>
    (Region.ready md ops listed = [] → Q .normal a w) ∧
    ∀ i ∈ Region.ready md ops listed, wpOp P ops Q i (fun a' w' => (freshB zs (listed.setIfInBounds i true) = true → S w') ∧ wpAnyG P md ops Q S zs fuel (listed.setIfInBounds i true) a' w') a w
theorem wpAny_ofG : ∀ (fuel : Nat) (listed : Array Bool) (a : Act) (w : World), wpAnyG P md ops Q S zs fuel listed a w → wpAny P md ops Q fuel listed a w
  | 0, _, _, _, h => h
  | fuel + 1, _, _, _, h => ⟨h.1, fun i hi => wpOp_mono (fun a' w' h' => wpAny_ofG fuel _ a' w' h'.2) (h.2 i hi)⟩

/-- An operation that yields, where S holds, comes first: T is what it wants of a world. -/
theorem wpAnyG_first {i : Nat} {oi : Oper} {v : Value} (hi : ops[i]? = some oi) (hsel : ∀ (j : Nat) (o : Oper) cs b, ops[j]? = some o → o.op ≠ .select cs b)
    (hQ : ∀ c a w, Q (.panic c) (a.put oi.dst v) w → Q (.panic c) a w) (hiz : zs.contains i = false) (T : World → Prop)
    (hR : ∀ listed w, Shutd md ops listed → i ∈ Region.ready md ops listed → (freshB zs listed = true → S w) → T w) :
    ∀ (fuel : Nat) (listed : Array Bool) (a : Act) (w : World), Shutd md ops listed →
      (∀ j oj, ops[j]? = some oj → j ≠ i → listed.getD j true = false → (∀ e ∈ oj.after, Region.binds md e = true → e.on ≠ i) → oi.apart ops oj = true) →
      i ∈ Region.ready md ops listed → YieldsIf P ops T oi v a → (freshB zs listed = true → S w) →
      wpAnyG P md ops Q S zs fuel (listed.setIfInBounds i true) (a.put oi.dst v) w → wpAnyG P md ops Q S zs (fuel + 1) listed a w := by
  intro fuel
  induction fuel with
  | zero =>
    intro listed a w hsh _ hr hy hS H
    refine ⟨fun h => (by rw [h] at hr; cases hr), fun j hj => ?_⟩
    by_cases hji : j = i
    · subst hji; exact hy.wpOp hi (hR _ w hsh hr hS) ⟨fun hf => hS (by rwa [fresh_set hiz] at hf), H⟩
    · have := ready_mono hj hji
      rw [H.1] at this
      cases this
  | succ fuel ih =>
    intro listed a w hsh hfree hr hy hS H
    refine ⟨fun h => (by rw [h] at hr; cases hr), fun j hj => ?_⟩
    by_cases hji : j = i
    · subst hji; exact hy.wpOp hi (hR _ w hsh hr hS) ⟨fun hf => hS (by rwa [fresh_set hiz] at hf), H⟩
    · have h1 := H.2 j (ready_mono hj hji)
      obtain ⟨hjun, oj, hoj, hall⟩ := mem_ready.1 hj
      have hnot : ∀ e ∈ oj.after, Region.binds md e = true → e.on ≠ i := fun e he hb heq => by
        have h1 := hall e he hb
        have h0 := (mem_ready.1 hr).1
        rw [heq] at h1
        rcases Nat.lt_or_ge i listed.size with h' | h'
        · simp [h'] at h0 h1; rw [h0] at h1; cases h1
        · simp [Array.getElem?_eq_none h'] at h1
      have h2 := wpOp_putIf hoj (hfree j oj hoj hji hjun hnot) (fun cs b => hsel i oi cs b hi) (fun cs b => hsel j oj cs b hoj) hQ hy h1
      have hfree' : ∀ k ok, ops[k]? = some ok → k ≠ i → (listed.setIfInBounds j true).getD k true = false →
          (∀ e ∈ ok.after, Region.binds md e = true → e.on ≠ i) → oi.apart ops ok = true := fun k ok hk hki hun hno => by
        refine hfree k ok hk hki ?_ hno
        by_cases hjk : j = k
        · subst hjk; exact hjun
        · rw [getD_set_ne true hjk] at hun; exact hun
      have hsw : ∀ w', (freshB zs ((listed.setIfInBounds i true).setIfInBounds j true) = true → S w') → freshB zs (listed.setIfInBounds j true) = true → S w' := fun w' h hf => by
        rw [Array.setIfInBounds_comm _ _ (Ne.symm hji), fresh_set hiz] at h
        exact h hf
      refine wpOp_mono (fun a' w' h3 => ⟨hsw w' h3.2.1, ih (listed.setIfInBounds j true) a' w' (hsh.step hj) hfree' (ready_mono hr (Ne.symm hji)) h3.1 (hsw w' h3.2.1) ?_⟩) h2
      rw [Array.setIfInBounds_comm _ _ hji]
      exact h3.2.2

/-- An operation of a region that is written out, as it is written. -/
def nthL {A : Type} : List A → Nat → Option A
  | [], _ => none
  | x :: _, 0 => some x
  | _ :: l, n + 1 => nthL l n
theorem nthL_eq {A : Type} : ∀ (l : List A) (n : Nat), nthL l n = l[n]?
  | [], n => by simp [nthL]
  | x :: l, 0 => rfl
  | x :: l, n + 1 => by rw [nthL, nthL_eq l n, List.getElem?_cons_succ]
theorem nth_at {ops : Array Oper} {i : Nat} {o : Oper} (h : nthL ops.toList i = some o) : ops[i]? = some o := by
  rw [nthL_eq] at h
  simpa using h

/-- The walk: a region behind some operations. -/
def Drawn (P : Program) (ops : Array Oper) (Q : Exit → Act → World → Prop) (S : World → Prop) (zs : List Nat) (fuel : Nat) (listed : Array Bool) (ts : Array Value) (ds : List Deferred) (w : World) : Prop :=
  Shutd .any ops listed → wpAnyG P .any ops Q S zs fuel listed { tmps := ts, defers := ds } w
theorem drawn_region (S : World → Prop) (zs : List Nat) {id : Nat} {ts : Array Value} {ds : List Deferred} {w : World} (hm : P.follows .mixedOrders = true) (h : Drawn P ops Q S zs ops.size (Array.replicate ops.size false) ts ds w.drew) : (Code.region id ops true).wp P Q { tmps := ts, defers := ds } w :=
  wp_region_any hm (wpAny_ofG _ _ _ _ (h Shutd.start))
/-- An operation that reads: late ones wait for it. -/
theorem drawn_take (i d : Nat) {oi : Oper} (v : Value) {fuel : Nat} {listed : Array Bool} {ts : Array Value} {ds : List Deferred} {w : World} (hi0 : nthL ops.toList i = some oi) (hd : oi.dst = some d)
    (hs : Region.noSelect ops = true) (hf : Region.free .any ops listed i = true) (hr : (Region.ready .any ops listed).contains i = true) (hz : (!zs.contains i && zs.all (fun z => waitsB .any ops ops.size z i)) = true)
    (hQ : ∀ c (a : Act) w, Q (.panic c) (a.put oi.dst v) w → Q (.panic c) a w) (hw : Region.wanted oi (yielded ops ts) = true) (hS : S w) (hy : ∀ w, S w → (execOp ({ tmps := ts, defers := ds } : Act).eval oi).run P w = .ok (.value v) w)
    (h : Drawn P ops Q S zs fuel (listed.setIfInBounds i true) (ts.setIfInBounds d v) ds w) : Drawn P ops Q S zs (fuel + 1) listed ts ds w := fun hc => by
  have hi := nth_at hi0
  have hm : i ∈ Region.ready .any ops listed := by simpa using hr
  obtain ⟨hz1, hz2⟩ := Bool.and_eq_true_iff.1 hz
  refine wpAnyG_first hi (Region.noSelect_spec hs) hQ (by simpa using hz1) S (fun l w hsh hir h => h (fresh_of hsh hz2 (mem_ready.1 hir).1)) fuel listed _ w hc (Region.free_spec hi hf) hm (.inl ⟨hw, hy⟩) (fun _ => hS) ?_
  have h2 := h (hc.step hm)
  rw [hd]
  exact h2
/-- An operation that yields in whatever world. -/
theorem drawn_move (i d : Nat) {oi : Oper} (v : Value) {fuel : Nat} {listed : Array Bool} {ts : Array Value} {ds : List Deferred} {w : World} (hi0 : nthL ops.toList i = some oi) (hd : oi.dst = some d)
    (hs : Region.noSelect ops = true) (hf : Region.free .any ops listed i = true) (hr : (Region.ready .any ops listed).contains i = true) (hz : (!zs.contains i) = true)
    (hQ : ∀ c (a : Act) w, Q (.panic c) (a.put oi.dst v) w → Q (.panic c) a w) (hw : Region.wanted oi (yielded ops ts) = true) (hS : freshB zs listed = true → S w) (hy : ∀ w, (execOp ({ tmps := ts, defers := ds } : Act).eval oi).run P w = .ok (.value v) w)
    (h : Drawn P ops Q S zs fuel (listed.setIfInBounds i true) (ts.setIfInBounds d v) ds w) : Drawn P ops Q S zs (fuel + 1) listed ts ds w := fun hc => by
  have hi := nth_at hi0
  have hm : i ∈ Region.ready .any ops listed := by simpa using hr
  refine wpAnyG_first hi (Region.noSelect_spec hs) hQ (by simpa using hz) (fun _ => True) (fun _ _ _ _ _ => trivial) fuel listed _ w hc (Region.free_spec hi hf) hm (.inl ⟨hw, fun w _ => hy w⟩) hS ?_
  have h2 := h (hc.step hm)
  rw [hd]
  exact h2
/-- Whichever of some comes up. -/
def DrawnAll (P : Program) (ops : Array Oper) (Q : Exit → Act → World → Prop) (S : World → Prop) (zs : List Nat) (fuel : Nat) (listed : Array Bool) (ts : Array Value) (ds : List Deferred) (w : World) (rs : List Nat) : Prop :=
  Shutd .any ops listed → ∀ i ∈ rs, i ∈ Region.ready .any ops listed → wpOp P ops Q i (fun a' w' => (freshB zs (listed.setIfInBounds i true) = true → S w') ∧ wpAnyG P .any ops Q S zs fuel (listed.setIfInBounds i true) a' w') { tmps := ts, defers := ds } w
theorem drawn_any (rs : List Nat) {fuel : Nat} {listed : Array Bool} {ts : Array Value} {ds : List Deferred} {w : World} (hr : Region.ready .any ops listed = rs) (hne : rs ≠ []) (h : DrawnAll P ops Q S zs fuel listed ts ds w rs) : Drawn P ops Q S zs (fuel + 1) listed ts ds w :=
  fun hc => ⟨fun h0 => absurd (hr ▸ h0) hne, fun i hi => h hc i (hr ▸ hi) hi⟩
theorem drawn_nil {fuel : Nat} {listed : Array Bool} {ts : Array Value} {ds : List Deferred} {w : World} : DrawnAll P ops Q S zs fuel listed ts ds w [] := fun _ _ h => by cases h
/-- One that is not late: S is shown behind it. -/
theorem drawn_cons {fuel : Nat} {listed : Array Bool} {ts : Array Value} {ds : List Deferred} {w : World} {i : Nat} {o : Oper} {rs : List Nat} (ho0 : nthL ops.toList i = some o)
    (h : ∀ K : Act → World → Prop, Shut (∀ (ts : Array Value) (ds : List Deferred) w, S w → Drawn P ops Q S zs fuel (listed.setIfInBounds i true) ts ds w → K { tmps := ts, defers := ds } w) → if Region.wanted o (yielded ops ts) = true then Oper.wp P o { tmps := ts, defers := ds } w K Q else K (({ tmps := ts, defers := ds } : Act).put o.dst undef) w)
    (hs : DrawnAll P ops Q S zs fuel listed ts ds w rs) : DrawnAll P ops Q S zs fuel listed ts ds w (i :: rs) := fun hc j hj hr => by
  rcases List.mem_cons.1 hj with rfl | hj
  · exact wpOp_step (nth_at ho0) (fun K' hK => h K' (fun ts ds w hS hW => hK { tmps := ts, defers := ds } w ⟨fun _ => hS, hW (hc.step hr)⟩))
  · exact hs hc j hj hr
/-- One that is late, or behind a late one, with more to come. -/
theorem drawn_late {fuel : Nat} {listed : Array Bool} {ts : Array Value} {ds : List Deferred} {w : World} {i : Nat} {o : Oper} {rs : List Nat} (ho0 : nthL ops.toList i = some o) (hl : freshB zs (listed.setIfInBounds i true) = false)
    (h : ∀ K : Act → World → Prop, Shut (∀ (ts : Array Value) (ds : List Deferred) w, Drawn P ops Q S zs fuel (listed.setIfInBounds i true) ts ds w → K { tmps := ts, defers := ds } w) → if Region.wanted o (yielded ops ts) = true then Oper.wp P o { tmps := ts, defers := ds } w K Q else K (({ tmps := ts, defers := ds } : Act).put o.dst undef) w)
    (hs : DrawnAll P ops Q S zs fuel listed ts ds w rs) : DrawnAll P ops Q S zs fuel listed ts ds w (i :: rs) := fun hc j hj hr => by
  rcases List.mem_cons.1 hj with rfl | hj
  · exact wpOp_step (nth_at ho0) (fun K' hK => h K' (fun ts ds w hW => hK { tmps := ts, defers := ds } w ⟨fun hf => by rw [hl] at hf; (cases hf), hW (hc.step hr)⟩))
  · exact hs hc j hj hr
/-- The last. -/
theorem drawn_last {z fuel : Nat} {listed : Array Bool} {ts : Array Value} {ds : List Deferred} {w : World} {o : Oper} (ho0 : nthL ops.toList z = some o) (hr : Region.ready .any ops listed = [z]) (hr2 : Region.ready .any ops (listed.setIfInBounds z true) = []) (hl : freshB zs (listed.setIfInBounds z true) = false)
    (h : ∀ K : Act → World → Prop, Shut (∀ a w, Q .normal a w → K a w) → if Region.wanted o (yielded ops ts) = true then Oper.wp P o { tmps := ts, defers := ds } w K Q else K (({ tmps := ts, defers := ds } : Act).put o.dst undef) w) :
    Drawn P ops Q S zs (fuel + 1) listed ts ds w := fun _ => by
  refine ⟨fun h0 => (by rw [h0] at hr; cases hr), fun i hi => ?_⟩
  rw [hr] at hi
  obtain rfl := List.mem_singleton.1 hi
  refine wpOp_step (nth_at ho0) (fun K' hK => h K' (fun a w hq => hK a w ⟨fun hf => by rw [hl] at hf; (cases hf), ?_⟩))
  cases fuel with
  | zero => exact ⟨hr2, hq⟩
  | succ n => exact ⟨fun _ => hq, by rw [hr2]; simp⟩
/-- The last, one that yields in whatever world. -/
theorem drawn_last1 (z d : Nat) {o : Oper} (v : Value) {fuel : Nat} {listed : Array Bool} {ts : Array Value} {ds : List Deferred} {w : World} (ho0 : nthL ops.toList z = some o) (hd : o.dst = some d) (hr : Region.ready .any ops listed = [z]) (hr2 : Region.ready .any ops (listed.setIfInBounds z true) = [])
    (hw : Region.wanted o (yielded ops ts) = true) (hy : ∀ w, (execOp ({ tmps := ts, defers := ds } : Act).eval o).run P w = .ok (.value v) w) (hS : S w)
    (h : Q .normal { tmps := ts.setIfInBounds d v, defers := ds } w) : Drawn P ops Q S zs (fuel + 1) listed ts ds w := fun _ => by
  refine ⟨fun h0 => (by rw [h0] at hr; cases hr), fun i hi => ?_⟩
  rw [hr] at hi
  obtain rfl := List.mem_singleton.1 hi
  have hi := nth_at ho0
  have key : Q .normal ((({ tmps := ts, defers := ds } : Act)).put o.dst v) w := by rw [hd]; exact h
  refine Yields.wpOp hi (.inl ⟨hw, hy⟩) ⟨fun _ => hS, ?_⟩
  cases fuel with
  | zero => exact ⟨hr2, key⟩
  | succ n => exact ⟨fun _ => key, by rw [hr2]; simp⟩
end

end Go.Proofs.Ytamcgoamkakpkaa

/-
  Rows of elements of any size: one element stored, the row cut, cleared. No type is named here.
-/
namespace Go.Proofs.Ytamcgoamkakpkaa
open Go.RowKit

theorem Box.setCells {g : Nat} {t : TypeId} : ∀ (vs : List Value) (o : Nat) (cs : Array Value) (w : World), Box w g t cs → o + vs.length ≤ cs.size → Box (w.setCells g o vs) g t (cs.toList.take o ++ vs ++ cs.toList.drop (o + vs.length)).toArray
  | [], o, cs, w, h, _ => by simpa [World.setCells] using h
  | v :: r, o, cs, w, h, hl => by
    have hl1 : o + (r.length + 1) ≤ cs.size := hl
    have h1 := Box.setCells r (o + 1) (cs.setIfInBounds o v) _ (h.set o v) (by simp; omega)
    unfold World.setCells
    have e : (cs.setIfInBounds o v).toList.take (o + 1) ++ r ++ (cs.setIfInBounds o v).toList.drop (o + 1 + r.length) = cs.toList.take o ++ (v :: r) ++ cs.toList.drop (o + (v :: r).length) := by
      have hlt : o < cs.toList.length := by simp; omega
      rw [Array.toList_setIfInBounds, List.drop_set_of_lt (by omega), List.set_eq_take_append_cons_drop, if_pos hlt, List.length_cons, show o + 1 + r.length = o + (r.length + 1) by omega]
      have e2 : (cs.toList.take o).length = o := by rw [List.length_take]; omega
      rw [List.take_append, e2, List.take_of_length_le (by omega), show o + 1 - o = 1 by omega]
      simp
    rw [e] at h1
    exact h1
theorem turn_setCells {S : Nat → Prop} {g : Nat} (hg : S g) : ∀ (vs : List Value) (o : Nat) (w : World), Turn S w (w.setCells g o vs)
  | [], _, w => Turn.refl _ w
  | v :: r, o, w => (Turn.setCell (S := S) (p := ⟨g, o, none⟩) (Turn.refl S w) (fun _ => hg) v).trans (turn_setCells hg r (o + 1) _) (fun _ _ h => h)

section
variable {T : Type} {E : El T} {e : TypeId} {w : World} {ad : Addr} {n c : Nat} {L : List T}
theorem OwE.home (h : OwE E e w (.slice (some ad) n c) L) : ∃ cur, ad = ⟨ad.block, 0, none⟩ ∧ n = L.length ∧ Box w ad.block e cur ∧ L.length ≤ c ∧ c ≤ maxLen ∧ cur.size = c * E.sz ∧ cur.toList.take (L.length * E.sz) = E.flat L := by
  rcases h.form with ⟨e1, _⟩ | ⟨g, cap, cur, e1, hb, h1, h2, h3, h4⟩
  · cases e1
  · injection e1 with e1 e2 e3
    injection e1 with e1
    subst e1 e2 e3
    exact ⟨cur, rfl, rfl, hb, h1, h2, h3, h4⟩
theorem OwE.of_box {cur : Array Value} {g : Nat} (hb : Box w g e cur) (h1 : L.length ≤ c) (h2 : c ≤ maxLen) (h3 : cur.size = c * E.sz) (h4 : cur.toList.take (L.length * E.sz) = E.flat L) : OwE E e w (.slice (some ⟨g, 0, none⟩) L.length c) L :=
  ⟨E.flat_len L, .inr ⟨g, c, cur, rfl, Nat.zero_le _, hb, h1, h2, h3, h4⟩⟩
theorem El.flat_set (E : El T) {j : Nat} (hj : j < L.length) (x : T) : E.flat (L.set j x) = (E.flat L).take (j * E.sz) ++ E.enc x ++ (E.flat L).drop (j * E.sz + E.sz) := by
  rw [List.set_eq_take_append_cons_drop, if_pos hj, E.flat_append, E.flat_cons, E.flat_take, E.flat_drop, Nat.add_mul, Nat.one_mul, List.append_assoc]
/-- One element stored. -/
theorem OwE.put (h : OwE E e w (.slice (some ad) n c) L) {j : Nat} (hj : j < L.length) (x : T) : OwE E e (w.setCells ad.block (ad.off + j * E.sz) (E.enc x)) (.slice (some ad) n c) (L.set j x) := by
  obtain ⟨cur, ha, hn, hb, h1, h2, h3, h4⟩ := h.home
  have hoff : ad.off = 0 := by rw [ha]
  rw [hoff, Nat.zero_add, ha, hn]
  have hsz : L.length * E.sz ≤ cur.size := by rw [h3]; exact Nat.mul_le_mul_right _ h1
  have hj2 : j * E.sz + E.sz ≤ L.length * E.sz := by rw [← Nat.succ_mul]; exact Nat.mul_le_mul_right _ hj
  have hbox := Box.setCells (E.enc x) (j * E.sz) cur w hb (by rw [E.len]; omega)
  have hl : (L.set j x).length = L.length := List.length_set
  have hF : (E.flat L).length = L.length * E.sz := E.flat_len L
  have hcur : cur.toList = E.flat L ++ cur.toList.drop (L.length * E.sz) := by rw [← h4, List.take_append_drop]
  have e1 : cur.toList.take (j * E.sz) ++ E.enc x ++ cur.toList.drop (j * E.sz + (E.enc x).length) = E.flat (L.set j x) ++ cur.toList.drop (L.length * E.sz) := by
    rw [E.flat_set hj, E.len]
    have t1 : cur.toList.take (j * E.sz) = (E.flat L).take (j * E.sz) := by
      rw [hcur, List.take_append_of_le_length (by omega)]
    have t2 : cur.toList.drop (j * E.sz + E.sz) = (E.flat L).drop (j * E.sz + E.sz) ++ cur.toList.drop (L.length * E.sz) := by
      conv => lhs; rw [hcur]
      rw [List.drop_append_of_le_length (by omega)]
    rw [t1, t2]
    simp only [List.append_assoc]
  rw [e1] at hbox
  have hr := OwE.of_box (E := E) (L := L.set j x) (c := c) hbox (by rw [hl]; exact h1) h2 (by
    have hd : (cur.toList.drop (L.length * E.sz)).length = cur.size - L.length * E.sz := by rw [List.length_drop, Array.length_toList]
    rw [List.size_toArray, List.length_append, E.flat_len, hl, hd]
    omega) (by rw [hl]; dsimp only; rw [← hl, ← E.flat_len, List.take_left])
  rw [hl] at hr
  exact hr
theorem OwE.there (h : OwE E e w (.slice (some ad) n c) L) {j : Nat} (hj : j < L.length) : w.there ad.block (ad.off + j * E.sz) E.sz := by
  obtain ⟨cur, ha, hn, hb, h1, h2, h3, h4⟩ := h.home
  have hoff : ad.off = 0 := by rw [ha]
  intro i hi
  have hj2 : j * E.sz + E.sz ≤ L.length * E.sz := by rw [← Nat.succ_mul]; exact Nat.mul_le_mul_right _ hj
  have hsz : L.length * E.sz ≤ cur.size := by rw [h3]; exact Nat.mul_le_mul_right _ h1
  refine ⟨?_, hb.free _⟩
  rw [hb.cell, Array.getElem?_eq_getElem (by omega)]
  rfl
/-- The row cut. -/
theorem OwE.cut (h : OwE E e w (.slice (some ad) n c) L) {m : Nat} (hm : m ≤ L.length) : OwE E e w (.slice (some ad) m c) (L.take m) := by
  obtain ⟨cur, ha, hn, hb, h1, h2, h3, h4⟩ := h.home
  have hl : (L.take m).length = m := by rw [List.length_take]; omega
  have hr := OwE.of_box (E := E) (L := L.take m) (c := c) hb (by rw [hl]; omega) h2 h3 (by
    rw [hl, E.flat_take, ← h4, List.take_take, Nat.min_eq_left (Nat.mul_le_mul_right _ hm)])
  rw [hl, ← ha] at hr
  exact hr
/-- A store of one element, at the operation, in a region that draws. -/
theorem put_store {P : Program} {ops : Array Oper} {ty rt : TypeId} {pos : String} {af : Array Edge} {px vx : Operand} {a : Act} {K : Act → World → Prop} {Q : Exit → Act → World → Prop} {F : Prop}
    (hown : OwE E e w (.slice (some ad) n c) L) (j : Nat) (x : T) (hj : j < L.length) (hp : a.eval px = .pointer (some (ad.add (j * E.sz)))) (hv : a.eval vx = .agg (E.enc x).toArray) (hi : (P.info? ty).map (·.size) = some E.sz)
    (h : ∀ w', OwE E e w' (.slice (some ad) n c) (L.set j x) → Turn (fun k => k = ad.block) w w' → K a w') :
    if Region.wanted { dst := none, op := .store ty px vx, type := rt, pos := pos, after := af, guard := none } (yielded ops a.tmps) = true then Oper.wp P { dst := none, op := .store ty px vx, type := rt, pos := pos, after := af, guard := none } a w K Q else F := by
  rw [if_pos (by rfl)]
  obtain ⟨cur, ha, -⟩ := hown.home
  have hadd : ad.add (j * E.sz) = ⟨ad.block, ad.off + j * E.sz, none⟩ := by
    obtain ⟨b, o, s⟩ := ad
    simp only [Addr.mk.injEq, true_and] at ha
    obtain ⟨rfl, rfl⟩ := ha
    rw [own_add, Nat.zero_add]
  refine wp_store_mid ty px vx rfl ad.block (ad.off + j * E.sz) (E.enc x).toArray (by rw [hp, hadd]) hv (by rw [List.size_toArray, E.len]; exact hown.there hj) (by rw [List.size_toArray, E.len]; exact hi) (all_oneCell_toArray (E.one x)) ?_
  exact h _ (hown.put hj x) (turn_setCells (S := fun k => k = ad.block) rfl _ _ _)
/-- append, at the operation as it is written, in a region that draws. -/
theorem put_app {P : Program} {tS : TypeId} {z : Value} {by' : Nat} (ht : P.underlying tS = some (.slice e)) (hi0 : (P.info? e).map (fun i => (i.zero, i.size, i.bytes)) = some (some z, E.sz, by')) (hz : z.cells.size = E.sz) (hby : by' ≤ 1000)
    {w : World} {ops : Array Oper} {d : Option Nat} {ty : TypeId} {pos : String} {af : Array Edge} {s x : Operand} {a : Act} {K : Act → World → Prop} {Q : Exit → Act → World → Prop} {F : Prop} (l : List T) (hown : OwE E e w (a.eval s) l)
    (m : List T) (hy : RdE E w (a.eval x) m) (hl : l.length + m.length ≤ 3000000)
    (h : ∀ A n c w', OwE E e w' (.slice A n c) (l ++ m) → Turn (fun k => (a.eval s).ownBlock = some k) w w' → ((Value.slice A n c).ownBlock = (a.eval s).ownBlock ∨ (Value.slice A n c).ownBlock = some w.heap.size) → K (a.put d (.slice A n c)) w') :
    if Region.wanted { dst := d, op := .call { callee := .builtin .append, args := #[s, x], argTypes := #[tS, tS] }, type := ty, pos := pos, after := af, guard := none } (yielded ops a.tmps) = true then Oper.wp P { dst := d, op := .call { callee := .builtin .append, args := #[s, x], argTypes := #[tS, tS] }, type := ty, pos := pos, after := af, guard := none } a w K Q else F :=
  step_appE ht hi0 hz w rfl s x tS rfl (a.eval s) l rfl hown (a.eval x) rfl m (hy.src ht) (by simp only [maxLen]; omega) (Nat.le_trans (Nat.mul_le_mul hl hby) (by omega)) h
/-- One element's row, new. -/
theorem one_row (E : El T) (e : TypeId) (w : World) (x : T) : RdE E (w.alloc (.cells (E.enc x).toArray e)) (.slice (some ⟨w.heap.size, 0, none⟩) 1 1) [x] := by
  have h := (OwE.made (E := E) (e := e) w [x] (by show (1 : Nat) ≤ maxLen; simp [maxLen])).rd
  have e1 : E.flat [x] = E.enc x := by rw [El.flat_cons, El.flat_nil, List.append_nil]
  rw [e1] at h
  exact h
theorem OwE.some_at {A : Option Addr} (h : OwE E e w (.slice A n c) L) (h0 : 0 < L.length) : ∃ ad, A = some ad ∧ n = L.length := by
  rcases h.form with ⟨_, rfl⟩ | ⟨g, cap, cur, e1, _⟩
  · exact absurd h0 (by simp)
  · injection e1 with e1 e2 e3
    exact ⟨_, e1, e2⟩
end

end Go.Proofs.Ytamcgoamkakpkaa

/-
  In a region that draws its order: 'append(append(append([]T{}, a...), x), b...)', whatever order its parts come in; slices cut at their front and tail. No type is named here.
-/
namespace Go.Proofs.Ytamcgoamkakpkaa
open Go.RowKit

section
variable {P : Program} {T : Type} {E : El T} {tS e : TypeId}
/-- A slice's tail, as it is cut. -/
def tailV (E : El T) (A : Option Addr) (n c i : Nat) : Value := .slice (if c = i then A else A.map (fun a => a.add (i * E.sz))) (n - i) (c - i)
theorem rd_tailV {w : World} {A : Option Addr} {n c i : Nat} {L : List T} (h : RdE E w (.slice A n c) L) (hi : i ≤ n) : RdE E w (tailV E A n c i) (L.drop i) := by
  have hf := h.fits
  unfold tailV
  by_cases hc : c = i
  · rw [if_pos hc]
    have e : L.drop i = [] := List.eq_nil_of_length_eq_zero (by rw [List.length_drop]; omega)
    rw [e, show n - i = 0 by omega, show c - i = 0 by omega]
    cases A with
    | none => exact RdE.nil w
    | some ad => exact RdE.none_left _ (by simp) w 0 (Nat.zero_le _)
  · rw [if_neg hc]
    cases A with
    | none => have := (hf.2.2.2 rfl); omega
    | some ad => exact h.back i hi
theorem run_tailV (ht : P.underlying tS = some (.slice e)) (hz : (P.info? e).map (·.size) = some E.sz) (A : Option Addr) (n c i : Nat) (hi : i ≤ n) (w : World) :
    (Instr.slice tS (.slice A n c) (some (.int .i64 (i : Int))) none none).run P w = .ok (tailV E A n c i) w := by
  obtain ⟨j, hj, hz⟩ := Option.map_eq_some_iff.1 hz
  unfold tailV
  rw [← hz]
  simp [Instr.slice, Instr.sliceBounds, Instr.sliceBound, asIntOf, run_underlying ht, sizeOf, typeInfo, hj]
  intro h
  omega
theorem run_frontV (ht : P.underlying tS = some (.slice e)) (hz : (P.info? e).map (·.size) = some E.sz) (A : Option Addr) (n c i : Nat) (hi : i ≤ c) (w : World) :
    (Instr.slice tS (.slice A n c) none (some (.int .i64 (i : Int))) none).run P w = .ok (.slice A i c) w := by
  obtain ⟨j, hj, hz⟩ := Option.map_eq_some_iff.1 hz
  cases A
  all_goals
    simp [Instr.slice, Instr.sliceBounds, Instr.sliceBound, asIntOf, run_underlying ht, sizeOf, typeInfo, hj, Addr.add]
    intro h
    omega
theorem exec_tail {o : Oper} {a : Act} {xo ko : Operand} {A : Option Addr} {n c i : Nat} (ho : o.op = .slice tS xo (some ko) none none) (hx : a.eval xo = .slice A n c) (hk : a.eval ko = .int .i64 (i : Int)) (ht : P.underlying tS = some (.slice e)) (hz : (P.info? e).map (·.size) = some E.sz) (hi : i ≤ n) (w : World) :
    (execOp a.eval o).run P w = .ok (.value (tailV E A n c i)) w := by
  unfold execOp
  simp [ho, hx, hk, Instr.sliceAt, run_underlying ht, run_tailV (E := E) ht hz A n c i hi w]
theorem exec_front {o : Oper} {a : Act} {xo ko : Operand} {A : Option Addr} {n c i : Nat} (ho : o.op = .slice tS xo none (some ko) none) (hx : a.eval xo = .slice A n c) (hk : a.eval ko = .int .i64 (i : Int)) (ht : P.underlying tS = some (.slice e)) (hz : (P.info? e).map (·.size) = some E.sz) (hi : i ≤ c) (w : World) :
    (execOp a.eval o).run P w = .ok (.value (.slice A i c)) w := by
  unfold execOp
  simp [ho, hx, hk, Instr.sliceAt, run_underlying ht, run_frontV (E := E) ht hz A n c i hi w]
/-- append onto a row of one's own. -/
theorem run_appE {z : Value} {by' : Nat} (ht : P.underlying tS = some (.slice e)) (hi0 : (P.info? e).map (fun i => (i.zero, i.size, i.bytes)) = some (some z, E.sz, by')) (hz : z.cells.size = E.sz) (hby : by' ≤ 1000) (w : World) (ty : TypeId) (v : Value) (l : List T) (hown : OwE E e w v l)
    (y : Value) (m : List T) (hy : RdE E w y m) (hl : l.length + m.length ≤ 3000000) :
    ∃ A n c w', (Builtin.append_ #[tS, tS] ty #[v, y]).run P w = .ok (.slice A n c) w' ∧ OwE E e w' (.slice A n c) (l ++ m) ∧ Turn (fun k => v.ownBlock = some k) w w' ∧ ((Value.slice A n c).ownBlock = v.ownBlock ∨ (Value.slice A n c).ownBlock = some w.heap.size) := by
  obtain ⟨i, hi, hz0, h1, h2⟩ := info_parts hi0
  have hsrc := hy.src (P := P) ht
  unfold OwE at hown
  rw [← h1] at hown hsrc
  obtain ⟨A, n, c, w', hr, g1, g2, g3⟩ := run_app (P := P) w tS tS ty e i z ht hi hz0 (by rw [h1]; exact hz) v l.length _ hown y m.length _ hsrc (by simp only [maxLen]; omega) (by rw [h2]; exact Nat.le_trans (Nat.mul_le_mul hl hby) (by omega))
  refine ⟨A, n, c, w', hr, ?_, (Turn.refl _ w).grown g2 (fun k _ e => e), g3⟩
  unfold OwE
  rw [List.length_append, E.flat_append, ← h1]
  exact g1
end

section
variable {P : Program} {ops : Array Oper} {Q : Exit → Act → World → Prop} {S : World → Prop} {zs : List Nat}
theorem slot_ne {ts : Array Value} {d k : Nat} {v : Value} (h : d ≠ k) : (ts.setIfInBounds d v).getD k undef = ts.getD k undef := by
  simp [Array.getD_eq_getD_getElem?, Array.getElem?_setIfInBounds_ne h]
theorem slot_eq {ts : Array Value} {d : Nat} {v : Value} (h : d < ts.size) : (ts.setIfInBounds d v).getD d undef = v := by
  simp [Array.getD_eq_getD_getElem?, h]
/-- One that yields a value, in some world. -/
theorem drawn_does {fuel : Nat} {listed : Array Bool} {ts : Array Value} {ds : List Deferred} {w : World} {i d : Nat} {o : Oper} {rs : List Nat} (R : Value → World → Prop) (ho : nthL ops.toList i = some o) (hg : o.guard = none) (hd : o.dst = some d)
    (hr : ∃ v w', (execOp ({ tmps := ts, defers := ds } : Act).eval o).run P w = .ok (.value v) w' ∧ R v w')
    (h : ∀ v w', R v w' → S w' ∧ Drawn P ops Q S zs fuel (listed.setIfInBounds i true) (ts.setIfInBounds d v) ds w')
    (hs : DrawnAll P ops Q S zs fuel listed ts ds w rs) : DrawnAll P ops Q S zs fuel listed ts ds w (i :: rs) :=
  drawn_cons ho (fun K hK => by
    rw [if_pos (by simp [Region.wanted, hg])]
    obtain ⟨v, w', hrun, hR⟩ := hr
    unfold Oper.wp
    rw [hrun]
    show K (({ tmps := ts, defers := ds } : Act).put o.dst v) w'
    rw [hd]
    obtain ⟨h1, h2⟩ := h v w' hR
    exact hK.out _ _ _ h1 h2) hs
variable {T : Type} {E : El T} {tS e : TypeId}
theorem app_does {z : Value} {by' : Nat} (ht : P.underlying tS = some (.slice e)) (hi0 : (P.info? e).map (fun i => (i.zero, i.size, i.bytes)) = some (some z, E.sz, by')) (hz : z.cells.size = E.sz) (hby : by' ≤ 1000)
    {w0 w : World} {a : Act} {o : Oper} {s x : Operand} (ho : o.op = .call { callee := .builtin .append, args := #[s, x], argTypes := #[tS, tS] }) {v y : Value} {l m : List T} (hs : a.eval s = v) (hx : a.eval x = y) (hn : NewE E e w0 w v l) (hy : RdE E w y m) (hl : l.length + m.length ≤ 3000000) :
    ∃ u w', (execOp a.eval o).run P w = .ok (.value u) w' ∧ NewE E e w0 w' u (l ++ m) ∧ Turn (fun k => v.ownBlock = some k) w w' := by
  obtain ⟨A, n, c, w', hr, g1, g2, g3⟩ := run_appE (P := P) ht hi0 hz hby w o.type v l hn.own y m hy hl
  refine ⟨_, w', ?_, hn.step g1 g2 g3, g2⟩
  unfold execOp
  simp only [ho, resolve, invoke, builtin, Sem.run_bind, Sem.run_pure, Result.andThen_ok, List.map_toArray, List.map_cons, List.map_nil, hs, hx, hr]

/-- append(append(append([]T{}, a...), x), b...): all that is read lies in slots; whatever order the rest comes in. -/
theorem drawn_ins {z : Value} {by' : Nat} (ht : P.underlying tS = some (.slice e)) (hi0 : (P.info? e).map (fun i => (i.zero, i.size, i.bytes)) = some (some z, E.sz, by')) (hz : z.cells.size = E.sz) (hby : by' ≤ 1000)
    {w0 : World} (HS : ∀ W, Turn (fun _ => False) w0 W → S W) (ie i1 ix i2 i3 de d1 dx d2 d3 kf kx kt : Nat) {oe o1 ox o2 o3 : Oper}
    (he : nthL ops.toList ie = some oe) (ge : oe.guard = none) (te : oe.dst = some de) (pe : oe.op = .buildSlice tS 0 #[])
    (h1 : nthL ops.toList i1 = some o1) (g1 : o1.guard = none) (t1 : o1.dst = some d1) (p1 : o1.op = .call { callee := .builtin .append, args := #[.tmp de, .tmp kf], argTypes := #[tS, tS] })
    (hx : nthL ops.toList ix = some ox) (gx : ox.guard = none) (tx : ox.dst = some dx) (px : ox.op = .buildSlice tS 1 #[(0, .tmp kx)])
    (h2 : nthL ops.toList i2 = some o2) (g2 : o2.guard = none) (t2 : o2.dst = some d2) (p2 : o2.op = .call { callee := .builtin .append, args := #[.tmp d1, .tmp dx], argTypes := #[tS, tS] })
    (h3 : nthL ops.toList i3 = some o3) (g3 : o3.guard = none) (t3 : o3.dst = some d3) (p3 : o3.op = .call { callee := .builtin .append, args := #[.tmp d2, .tmp kt], argTypes := #[tS, tS] })
    {fuel : Nat} {listed : Array Bool} {ts : Array Value} {ds : List Deferred} {w : World}
    (r0 : Region.ready .any ops listed = [ie, ix]) (re : Region.ready .any ops (listed.setIfInBounds ie true) = [i1, ix]) (re1 : Region.ready .any ops ((listed.setIfInBounds ie true).setIfInBounds i1 true) = [ix])
    (rex : Region.ready .any ops ((listed.setIfInBounds ie true).setIfInBounds ix true) = [i1]) (rx : Region.ready .any ops (listed.setIfInBounds ix true) = [ie])
    (r3 : Region.ready .any ops (((listed.setIfInBounds ie true).setIfInBounds i1 true).setIfInBounds ix true) = [i2]) (r4 : Region.ready .any ops ((((listed.setIfInBounds ie true).setIfInBounds i1 true).setIfInBounds ix true).setIfInBounds i2 true) = [i3])
    (hd : (ie ≠ i1 ∧ ie ≠ ix ∧ i1 ≠ ix) ∧ (de ≠ d1 ∧ de ≠ dx ∧ d1 ≠ dx ∧ de ≠ kf ∧ de ≠ kx ∧ dx ≠ kf ∧ d1 ≠ kx) ∧ (de ≠ kt ∧ d1 ≠ kt ∧ dx ≠ kt ∧ d2 ≠ kt) ∧ de < ts.size ∧ d1 < ts.size ∧ dx < ts.size ∧ d2 < ts.size)
    {vf vt xv : Value} {l1 l3 : List T} {x : T} (kf' : ts.getD kf undef = vf) (kt' : ts.getD kt undef = vt) (kx' : ts.getD kx undef = xv)
    (HF : ∀ W, Turn (fun _ => False) w0 W → RdE E W vf l1) (HT : ∀ W, Turn (fun _ => False) w0 W → RdE E W vt l3) (hl : l1.length + l3.length ≤ 2000000)
    (hE : ∀ W, (Instr.buildSlice tS 0 #[]).run P W = .ok (.slice (some ⟨W.heap.size, 0, none⟩) 0 0) (W.alloc (.cells #[] e)))
    (hX : ∀ W, (Instr.buildSlice tS 1 #[(0, xv)]).run P W = .ok (.slice (some ⟨W.heap.size, 0, none⟩) 1 1) (W.alloc (.cells (E.enc x).toArray e)))
    (hw : Turn (fun _ => False) w0 w)
    (h : ∀ W v a b c d, NewE E e w0 W v (l1 ++ x :: l3) → Drawn P ops Q S zs fuel (((((listed.setIfInBounds ie true).setIfInBounds i1 true).setIfInBounds ix true).setIfInBounds i2 true).setIfInBounds i3 true) (((((ts.setIfInBounds de a).setIfInBounds d1 b).setIfInBounds dx c).setIfInBounds d2 d).setIfInBounds d3 v) ds W) :
    Drawn P ops Q S zs (fuel + 5) listed ts ds w := by
  obtain ⟨⟨n1, n2, n3⟩, ⟨m1, m2, m3, m4, m5, m6, m7⟩, ⟨q1, q2, q3, q4⟩, s1, s2, s3, s4⟩ := hd
  have EE : ∀ (ts : Array Value) W, ∃ v w', (execOp ({ tmps := ts, defers := ds } : Act).eval oe).run P W = .ok (.value v) w' ∧ (v = .slice (some ⟨W.heap.size, 0, none⟩) 0 0 ∧ w' = W.alloc (.cells #[] e)) := fun ts W =>
    ⟨_, _, by unfold execOp; simp [pe, hE], rfl, rfl⟩
  have EX : ∀ (ts : Array Value) W, ts.getD kx undef = xv → ∃ v w', (execOp ({ tmps := ts, defers := ds } : Act).eval ox).run P W = .ok (.value v) w' ∧ (v = .slice (some ⟨W.heap.size, 0, none⟩) 1 1 ∧ w' = W.alloc (.cells (E.enc x).toArray e)) := fun ts W hk =>
    ⟨_, _, by rw [Array.getD_eq_getD_getElem?] at hk; unfold execOp; simp [px, Act.eval, hk, hX], rfl, rfl⟩
  have tail : ∀ (W : World) (a b c : Value), NewE E e w0 W b l1 → RdE E W c [x] →
      Drawn P ops Q S zs (fuel + 2) (((listed.setIfInBounds ie true).setIfInBounds i1 true).setIfInBounds ix true) (((ts.setIfInBounds de a).setIfInBounds d1 b).setIfInBounds dx c) ds W := fun W a b c hn hc => by
    refine drawn_any [i2] r3 (by simp) (drawn_does (fun u w' => NewE E e w0 w' u (l1 ++ [x])) h2 g2 t2 ?_ (fun u w' hu => ⟨HS _ hu.turn, ?_⟩) drawn_nil)
    · obtain ⟨u, w', e1, e2, -⟩ := app_does (P := P) ht hi0 hz hby (a := ({ tmps := ((ts.setIfInBounds de a).setIfInBounds d1 b).setIfInBounds dx c, defers := ds } : Act)) p2 (v := b) (y := c) (by simp only [Act.eval]; rw [slot_ne (Ne.symm m3), slot_eq (by simpa using s2)]) (by simp only [Act.eval]; rw [slot_eq (by simpa using s3)]) hn hc (by simp; omega)
      exact ⟨u, w', e1, e2⟩
    · refine drawn_any [i3] r4 (by simp) (drawn_does (fun v w' => NewE E e w0 w' v (l1 ++ x :: l3)) h3 g3 t3 ?_ (fun v w' hv => ⟨HS _ hv.turn, h w' v a b c u hv⟩) drawn_nil)
      obtain ⟨v, w'', e1, e2, -⟩ := app_does (P := P) ht hi0 hz hby (a := ({ tmps := (((ts.setIfInBounds de a).setIfInBounds d1 b).setIfInBounds dx c).setIfInBounds d2 u, defers := ds } : Act)) p3 (v := u) (y := vt) (by simp only [Act.eval]; rw [slot_eq (by simpa using s4)]) (by simp only [Act.eval]; rw [slot_ne q4, slot_ne q3, slot_ne q2, slot_ne q1, kt']) hu (HT _ hu.turn) (by simp; omega)
      exact ⟨v, w'', e1, by simpa using e2⟩
  refine drawn_any [ie, ix] r0 (by simp) (drawn_does (fun v w' => v = .slice (some ⟨w.heap.size, 0, none⟩) 0 0 ∧ w' = w.alloc (.cells #[] e)) he ge te (EE ts w) ?_ (drawn_does (fun v w' => v = .slice (some ⟨w.heap.size, 0, none⟩) 1 1 ∧ w' = w.alloc (.cells (E.enc x).toArray e)) hx gx tx (EX ts w kx') ?_ drawn_nil))
  · rintro v w' ⟨rfl, rfl⟩
    have hn := NewE.empty (E := E) (e := e) w0 w hw
    refine ⟨HS _ hn.turn, drawn_any [i1, ix] re (by simp) (drawn_does (fun u w' => NewE E e w0 w' u l1) h1 g1 t1 ?_ (fun u w' hu => ⟨HS _ hu.turn, ?_⟩) (drawn_does (fun v w' => v = .slice (some ⟨(w.alloc (.cells #[] e)).heap.size, 0, none⟩) 1 1 ∧ w' = (w.alloc (.cells #[] e)).alloc (.cells (E.enc x).toArray e)) hx gx tx (EX _ _ (by rw [slot_ne m5, kx'])) ?_ drawn_nil))⟩
    · obtain ⟨u, w', e1, e2, -⟩ := app_does (P := P) ht hi0 hz hby (a := ({ tmps := ts.setIfInBounds de (.slice (some ⟨w.heap.size, 0, none⟩) 0 0), defers := ds } : Act)) p1 (y := vf) (by simp only [Act.eval]; rw [slot_eq s1]) (by simp only [Act.eval]; rw [slot_ne m4, kf']) hn (HF _ hn.turn) (by simp; omega)
      exact ⟨u, w', e1, by simpa using e2⟩
    · refine drawn_any [ix] re1 (by simp) (drawn_does (fun v w2 => v = .slice (some ⟨w'.heap.size, 0, none⟩) 1 1 ∧ w2 = w'.alloc (.cells (E.enc x).toArray e)) hx gx tx (EX _ _ (by rw [slot_ne m7, slot_ne m5, kx'])) ?_ drawn_nil)
      rintro v w2 ⟨rfl, rfl⟩
      exact ⟨HS _ (hu.alloc _).turn, tail _ _ _ _ (hu.alloc _) (one_row E e w' x)⟩
    · rintro v w2 ⟨rfl, rfl⟩
      have hn2 := hn.alloc (.cells (E.enc x).toArray e)
      have hr := one_row E e (w.alloc (.cells #[] e)) x
      refine ⟨HS _ hn2.turn, drawn_any [i1] rex (by simp) (drawn_does (fun u w3 => NewE E e w0 w3 u l1 ∧ RdE E w3 (.slice (some ⟨(w.alloc (.cells #[] e)).heap.size, 0, none⟩) 1 1) [x]) h1 g1 t1 ?_ (fun u w3 hu => ⟨HS _ hu.1.turn, ?_⟩) drawn_nil)⟩
      · obtain ⟨u, w3, e1, e2, e3⟩ := app_does (P := P) ht hi0 hz hby (a := ({ tmps := (ts.setIfInBounds de (.slice (some ⟨w.heap.size, 0, none⟩) 0 0)).setIfInBounds dx (.slice (some ⟨(w.alloc (.cells #[] e)).heap.size, 0, none⟩) 1 1), defers := ds } : Act)) p1 (v := .slice (some ⟨w.heap.size, 0, none⟩) 0 0) (y := vf) (by simp only [Act.eval]; rw [slot_ne (Ne.symm m2), slot_eq s1]) (by simp only [Act.eval]; rw [slot_ne m6, slot_ne m4, kf']) hn2 (HF _ hn2.turn) (by simp; omega)
        refine ⟨u, w3, e1, by simpa using e2, hr.turn e3 (fun k h1 h2 => ?_)⟩
        rw [World.size_alloc] at h1
        simp [Value.ownBlock] at h1 h2
        omega
      · rw [Array.setIfInBounds_comm _ _ (Ne.symm n3), Array.setIfInBounds_comm _ _ (Ne.symm m3)]
        exact tail _ _ _ _ hu.1 hu.2
  · rintro v w' ⟨rfl, rfl⟩
    have hr := one_row E e w x
    have hw1 : Turn (fun _ => False) w0 (w.alloc (.cells (E.enc x).toArray e)) := hw.alloc _
    refine ⟨HS _ hw1, drawn_any [ie] rx (by simp) (drawn_does (fun v w' => v = .slice (some ⟨(w.alloc (.cells (E.enc x).toArray e)).heap.size, 0, none⟩) 0 0 ∧ w' = (w.alloc (.cells (E.enc x).toArray e)).alloc (.cells #[] e)) he ge te (EE _ _) ?_ drawn_nil)⟩
    rintro v w2 ⟨rfl, rfl⟩
    have hn := NewE.empty (E := E) (e := e) w0 _ hw1
    have hr2 := hr.later ((Turn.refl _ (w.alloc (.cells (E.enc x).toArray e))).alloc (.cells #[] e))
    rw [Array.setIfInBounds_comm _ _ (Ne.symm n2), Array.setIfInBounds_comm _ _ (Ne.symm m2)]
    refine ⟨HS _ hn.turn, drawn_any [i1] rex (by simp) (drawn_does (fun u w3 => NewE E e w0 w3 u l1 ∧ RdE E w3 (.slice (some ⟨w.heap.size, 0, none⟩) 1 1) [x]) h1 g1 t1 ?_ (fun u w3 hu => ⟨HS _ hu.1.turn, ?_⟩) drawn_nil)⟩
    · obtain ⟨u, w3, e1, e2, e3⟩ := app_does (P := P) ht hi0 hz hby (a := ({ tmps := (ts.setIfInBounds de (.slice (some ⟨(w.alloc (.cells (E.enc x).toArray e)).heap.size, 0, none⟩) 0 0)).setIfInBounds dx (.slice (some ⟨w.heap.size, 0, none⟩) 1 1), defers := ds } : Act)) p1 (v := .slice (some ⟨(w.alloc (.cells (E.enc x).toArray e)).heap.size, 0, none⟩) 0 0) (y := vf) (by simp only [Act.eval]; rw [slot_ne (Ne.symm m2), slot_eq s1]) (by simp only [Act.eval]; rw [slot_ne m6, slot_ne m4, kf']) hn (HF _ hn.turn) (by simp; omega)
      refine ⟨u, w3, e1, by simpa using e2, hr2.turn e3 (fun k h1 h2 => ?_)⟩
      rw [World.size_alloc] at h2
      simp [Value.ownBlock] at h1 h2
      omega
    · rw [Array.setIfInBounds_comm _ _ (Ne.symm n3), Array.setIfInBounds_comm _ _ (Ne.symm m3)]
      exact tail _ _ _ _ hu.1 hu.2
end

end Go.Proofs.Ytamcgoamkakpkaa

/-
  Stage 16: a store, plain; the document's store in memory.
-/
namespace Go.Proofs.Ytamcgoamkakpkaa
open Go.RowKit

set_option maxRecDepth 100000

/-- A store: objects by names rising, turns that wait. -/
structure C16 where
  l : List (List UInt8 × List UInt8)
  t : List Bool
def C16.new : C16 := ⟨[], []⟩
def fail16 (s : C16) (l : List Bool) : C16 := { s with t := s.t ++ l.take (1000 - s.t.length) }
/-- What a call's turn says; the turns behind it. -/
def turnA16 (s : C16) (n : List UInt8) : Int := if named15 n = false then 2 else match s.t with
  | [] => 0
  | a :: _ => if a then 14 else 0
def turnS16 (s : C16) (n : List UInt8) : C16 := if named15 n = false then s else { s with t := s.t.tail }
def put16 (s : C16) (n b : List UInt8) : C16 × Int :=
  if turnA16 s n = 0 then (if 4194304 < b.length then (turnS16 s n, 7) else ({ turnS16 s n with l := putK ltN s.l n b }, 0)) else (turnS16 s n, turnA16 s n)
def get16 (s : C16) (n : List UInt8) : C16 × (List UInt8 × Int) :=
  if turnA16 s n = 0 then match getK ltN s.l n with
    | none => (turnS16 s n, ([], 11))
    | some b => (turnS16 s n, (b, 0))
  else (turnS16 s n, ([], turnA16 s n))
def del16 (s : C16) (n : List UInt8) : C16 × Int :=
  if turnA16 s n = 0 then (if hasK ltN s.l n then ({ turnS16 s n with l := dropK ltN s.l n }, 0) else (turnS16 s n, 11)) else (turnS16 s n, turnA16 s n)
def bytes16 (l : List (List UInt8 × List UInt8)) : Int := (l.map fun p => (p.2.length : Int)).sum

abbrev sv16 (s : List UInt8) : Value := .string ⟨s.toArray⟩
/-- An object's cells; a turn's. -/
def E16 : El (List UInt8 × List UInt8) where
  sz := 2
  enc p := [sv16 p.1, sv16 p.2]
  len _ := rfl
  one p u hu := by
    simp only [List.mem_cons, List.not_mem_nil, or_false] at hu
    rcases hu with rfl | rfl <;> rfl
def EB16 : El Bool where
  sz := 1
  enc b := [.bool b]
  len _ := rfl
  one b u hu := by
    simp only [List.mem_cons, List.not_mem_nil, or_false] at hu
    rcases hu with rfl
    rfl
abbrev cells16 (p : List UInt8 × List UInt8) : Array Value := #[sv16 p.1, sv16 p.2]
theorem obj_info16 : (Try.prog.info? 59).map (fun i => (i.zero, i.size, i.bytes)) = some (some (.agg #[.string ⟨#[]⟩, .string ⟨#[]⟩]), E16.sz, 32) := by kernel_rfl
theorem obj_zero16 : (Value.agg #[.string ⟨#[]⟩, .string ⟨#[]⟩]).cells.size = E16.sz := rfl
theorem bool_info16 : (Try.prog.info? 4).map (fun i => (i.zero, i.size, i.bytes)) = some (some (.bool false), EB16.sz, 1) := by kernel_rfl
theorem bool_zero16 : (Value.bool false).cells.size = EB16.sz := rfl
theorem obj_at16 {w : World} {A : Option Addr} {n c : Nat} {L : List (List UInt8 × List UInt8)} (h : RdE E16 w (.slice A n c) L) {j : Nat} {p : List UInt8 × List UInt8} (hj : L[j]? = some p) :
    ∃ ad, A = some ad ∧ ∀ W, Turn (fun _ => False) w W → W.cell? (ad.add (j * 2)) = some (sv16 p.1) ∧ W.cell? ⟨(ad.add (j * 2)).block, (ad.add (j * 2)).off + 1, none⟩ = some (sv16 p.2) := by
  obtain ⟨ad, hA, _⟩ := h.cells hj
  refine ⟨ad, hA, fun W ht => ?_⟩
  obtain ⟨ad', hA', hc⟩ := (h.later ht).cells hj
  rw [hA] at hA'
  cases hA'
  have key : ∀ (k : Nat) (u : Value), (E16.enc p)[k + 1]? = some u → W.cell? ⟨(ad.add (j * 2)).block, (ad.add (j * 2)).off + (k + 1), none⟩ = some u := fun k u hu => by
    rw [show (⟨(ad.add (j * 2)).block, (ad.add (j * 2)).off + (k + 1), none⟩ : Addr) = (ad.add (j * 2)).add (k + 1) from rfl, eadd_add]
    exact hc (k + 1) u hu
  exact ⟨hc 0 _ rfl, key 0 _ rfl⟩
theorem turn_at16 {w : World} {A : Option Addr} {n c : Nat} {L : List Bool} (h : RdE EB16 w (.slice A n c) L) {j : Nat} {p : Bool} (hj : L[j]? = some p) :
    ∃ ad, A = some ad ∧ ∀ W, Turn (fun _ => False) w W → W.cell? (ad.add j) = some (.bool p) := by
  obtain ⟨ad, hA, _⟩ := h.cells hj
  refine ⟨ad, hA, fun W ht => ?_⟩
  obtain ⟨ad', hA', hc⟩ := (h.later ht).cells hj
  rw [hA] at hA'
  cases hA'
  have h1 := hc 0 _ rfl
  rwa [show j * EB16.sz + 0 = j from by simp [EB16]] at h1

/-- The document's store, at block g: its rows of objects and of turns. -/
structure RD16 (w : World) (g : Nat) (sl tl : Value) (s : C16) : Prop where
  box : Box w g 31 #[sl, tl]
  row : RdE E16 w sl s.l
  trow : RdE EB16 w tl s.t
  far : sl.ownBlock ≠ some g
  tfar : tl.ownBlock ≠ some g
  lt : ∀ k, sl.ownBlock = some k → k < w.heap.size
  tlt : ∀ k, tl.ownBlock = some k → k < w.heap.size
theorem RD16.turn {S : Nat → Prop} {w w' : World} {g : Nat} {sl tl : Value} {s : C16} (h : RD16 w g sl tl s) (ht : Turn S w w') (h1 : ¬ S g) (h2 : ∀ k, sl.ownBlock = some k → ¬ S k) (h3 : ∀ k, tl.ownBlock = some k → ¬ S k) : RD16 w' g sl tl s :=
  ⟨h.box.turn ht h1, h.row.turn ht h2, h.trow.turn ht h3, h.far, h.tfar, fun k hk => Nat.lt_of_lt_of_le (h.lt k hk) ht.size, fun k hk => Nat.lt_of_lt_of_le (h.tlt k hk) ht.size⟩
theorem RD16.later {w w' : World} {g : Nat} {sl tl : Value} {s : C16} (h : RD16 w g sl tl s) (ht : Turn (fun _ => False) w w') : RD16 w' g sl tl s := h.turn ht (fun f => f) (fun _ _ f => f) (fun _ _ f => f)
/-- A row lies where another one lay, or in new memory. -/
def Own16 (w : World) (s0 sl : Value) : Prop := ∀ k, sl.ownBlock = some k → s0.ownBlock = some k ∨ w.heap.size ≤ k
theorem Own16.refl (w : World) (s : Value) : Own16 w s s := fun _ h => .inl h
theorem Own16.back {w w1 : World} {a b : Value} (h : Own16 w1 a b) (hs : w.heap.size ≤ w1.heap.size) : Own16 w a b := fun k hk => (h k hk).imp id (fun x => Nat.le_trans hs x)
theorem Own16.trans {w w1 : World} {a b c : Value} (h : Own16 w a b) (g : Own16 w1 b c) (hs : w.heap.size ≤ w1.heap.size) : Own16 w a c := fun k hk => by
  rcases g k hk with x | x
  · exact h k x
  · exact .inr (Nat.le_trans hs x)
/-- Behind a call that changes the store alone. -/
def Does16 (w : World) (g : Nat) (s0 t0 : Value) (s : C16) (v : Value) (e : Ending) (w' : World) : Prop := e = .returned v ∧ ∃ sl tl, RD16 w' g sl tl s ∧ Turn (fun k => k = g) w w' ∧ Own16 w s0 sl ∧ Own16 w t0 tl
/-- Objects anew. -/
theorem rd_set16 {w w3 : World} {g : Nat} {sl tl v : Value} {s : C16} {M : List (List UInt8 × List UInt8)} (h : RD16 w g sl tl s) (hn : NewE E16 59 w w3 v M) : RD16 (w3.setCell ⟨g, 0, none⟩ v) g v tl { s with l := M } ∧ Turn (fun k => k = g) w (w3.setCell ⟨g, 0, none⟩ v) := by
  have hlt := h.box.lt
  have hne : v.ownBlock ≠ some g := fun e => by have := hn.new g e; omega
  have ht : Turn (fun k => k = g) w (w3.setCell ⟨g, 0, none⟩ v) := Turn.setCell (S := fun j => j = g) (p := ⟨g, 0, none⟩) (hn.turn.mono (fun _ _ f => f.elim)) (fun _ => rfl) _
  refine ⟨⟨?_, (hn.own.rd).turn ((Turn.refl (fun k => k = g) w3).setCell (fun _ => rfl) _) (fun b hb e => hne (by rw [hb, e])), h.trow.turn ht (fun k hk e => h.tfar (by rw [hk, e])), hne, h.tfar, fun k hk => Nat.lt_of_lt_of_le (hn.own.lt hk) (Turn.setCell (S := fun j => j = g) (p := ⟨g, 0, none⟩) (Turn.refl _ w3) (fun _ => rfl) v).size, fun k hk => Nat.lt_of_lt_of_le (h.tlt k hk) ht.size⟩, ht⟩
  exact (h.box.turn hn.turn (fun f => f)).set 0 v
/-- Turns anew, or fewer. -/
theorem rd_turns16 {w w3 : World} {g : Nat} {sl tl v : Value} {s : C16} {T : List Bool} (h : RD16 w g sl tl s) (t3 : Turn (fun _ => False) w w3) (hr : RdE EB16 w3 v T) (ho : Own16 w tl v) (hl : ∀ k, v.ownBlock = some k → k < w3.heap.size) :
    RD16 (w3.setCell ⟨g, 1, none⟩ v) g sl v { s with t := T } ∧ Turn (fun k => k = g) w (w3.setCell ⟨g, 1, none⟩ v) := by
  have hlt := h.box.lt
  have hne : v.ownBlock ≠ some g := fun e => by
    rcases ho g e with x | x
    · exact h.tfar x
    · omega
  have ht : Turn (fun k => k = g) w (w3.setCell ⟨g, 1, none⟩ v) := Turn.setCell (S := fun j => j = g) (p := ⟨g, 1, none⟩) (t3.mono (fun _ _ f => f.elim)) (fun _ => rfl) _
  refine ⟨⟨?_, h.row.turn ht (fun k hk e => h.far (by rw [hk, e])), hr.turn ((Turn.refl (fun k => k = g) w3).setCell (p := ⟨g, 1, none⟩) (fun _ => rfl) _) (fun b hb e => hne (by rw [hb, e])), h.far, hne, fun k hk => Nat.lt_of_lt_of_le (h.lt k hk) ht.size, fun k hk => Nat.lt_of_lt_of_le (hl k hk) (Turn.setCell (S := fun j => j = g) (p := ⟨g, 1, none⟩) (Turn.refl _ w3) (fun _ => rfl) v).size⟩, ht⟩
  exact (h.box.turn t3 (fun f => f)).set 1 v

end Go.Proofs.Ytamcgoamkakpkaa

/-
  A guarded operation that is not wanted, in a region that draws. No type is named here.
-/
namespace Go.Proofs.Ytamcgoamkakpkaa
open Go.RowKit

/-- The walk stands still here. -/
def Halt11 (p : Prop) : Prop := p
theorem halt11 {p : Prop} (h : Halt11 p) : p := h

section
variable {P : Program} {ops : Array Oper} {Q : Exit → Act → World → Prop} {S : World → Prop} {zs : List Nat}
theorem drawn_skip (i d : Nat) {oi : Oper} {fuel : Nat} {listed : Array Bool} {ts : Array Value} {ds : List Deferred} {w : World} (hi0 : nthL ops.toList i = some oi) (hd : oi.dst = some d)
    (hs : Region.noSelect ops = true) (hf : Region.free .any ops listed i = true) (hr : (Region.ready .any ops listed).contains i = true) (hz : (!zs.contains i) = true)
    (hQ : ∀ c (a : Act) w, Q (.panic c) (a.put oi.dst undef) w → Q (.panic c) a w) (hw : Region.wanted oi (yielded ops ts) = false) (hS : freshB zs listed = true → S w)
    (h : Drawn P ops Q S zs fuel (listed.setIfInBounds i true) (ts.setIfInBounds d undef) ds w) : Drawn P ops Q S zs (fuel + 1) listed ts ds w := fun hc => by
  have hi := nth_at hi0
  have hm : i ∈ Region.ready .any ops listed := by simpa using hr
  refine wpAnyG_first hi (Region.noSelect_spec hs) hQ (by simpa using hz) (fun _ => True) (fun _ _ _ _ _ => trivial) fuel listed _ w hc (Region.free_spec hi hf) hm (.inr ⟨hw, rfl⟩) hS ?_
  have h2 := h (hc.step hm)
  rw [hd]
  exact h2
end

section
variable {P : Program} {T : Type} {E : El T} {tS e : TypeId} {ops : Array Oper} {rest : List Oper} {Q : Exit → Act → World → Prop} {op : Oper} {a : Act} {w : World} {A : Option Addr} {n c i : Nat} {L : List T}
/-- A slice's tail, in a region that draws nothing. -/
theorem wpList_cut (ht : P.underlying tS = some (.slice e)) (hz : (P.info? e).map (·.size) = some E.sz) (hgd : op.guard = none) (xo ko : Operand) (ho : op.op = .slice tS xo (some ko) none none) (hrd : RdE E w (.slice A n c) L) (hx : a.eval xo = .slice A n c) (hk : a.eval ko = .int .i64 (i : Int)) (hi : i ≤ n)
    (h : ∀ B, RdE E w (.slice B (n - i) (c - i)) (L.drop i) → (∀ g, (Value.slice B (n - i) (c - i)).ownBlock = some g → (Value.slice A n c).ownBlock = some g) → wpList P ops Q rest (a.put op.dst (.slice B (n - i) (c - i))) w) : wpList P ops Q (op :: rest) a w :=
  wpList_plain hgd fun K hK => by
    unfold Oper.wp
    rw [exec_tail (E := E) ho hx hk ht hz hi w]
    refine hK _ _ (h _ (rd_tailV hrd hi) (fun g hg => ?_))
    by_cases e : c = i
    · rw [if_pos e] at hg
      cases A with
      | none => simp [Value.ownBlock] at hg
      | some ad => simpa [Value.ownBlock] using hg
    · rw [if_neg e] at hg
      cases A with
      | none => simp [Value.ownBlock] at hg
      | some ad => simpa [Value.ownBlock, eadd_block] using hg
/-- No elements: whatever the world. -/
theorem rd_empty {w' : World} {v : Value} (h : RdE E w v []) : RdE E w' v [] := by
  obtain ⟨A, c, e, h1, h2, _⟩ := h
  exact ⟨A, c, e, h1, h2, fun _ _ i u hi => by simp [El.flat] at hi⟩
/-- A slice's front, in a region that draws nothing. -/
theorem wpList_front (ht : P.underlying tS = some (.slice e)) (hz : (P.info? e).map (·.size) = some E.sz) (hgd : op.guard = none) (xo ko : Operand) (ho : op.op = .slice tS xo none (some ko) none) (hrd : RdE E w (.slice A n c) L) (hx : a.eval xo = .slice A n c) (hk : a.eval ko = .int .i64 (i : Int)) (hi : i ≤ n)
    (h : RdE E w (.slice A i c) (L.take i) → wpList P ops Q rest (a.put op.dst (.slice A i c)) w) : wpList P ops Q (op :: rest) a w :=
  wpList_plain hgd fun K hK => by
    unfold Oper.wp
    rw [exec_front (E := E) ho hx hk ht hz (Nat.le_trans hi (by have := hrd.fits; omega)) w]
    exact hK _ _ (h (hrd.front i hi))
end

end Go.Proofs.Ytamcgoamkakpkaa

/-
  Stage 16: the document's Find, turn.
-/
namespace Go.Proofs.Ytamcgoamkakpkaa
open Go.RowKit

set_option maxRecDepth 100000

theorem has_at16 {V : Type} {L : List (List UInt8 × V)} {k : List UInt8} {i : Nat} {p : List UInt8 × V} (h : plc ltN L k = i) (hp : L[i]? = some p) : hasK ltN L k = decide (p.1 = k) := by
  unfold hasK
  rw [h, hp]
theorem has_not16 {V : Type} {L : List (List UInt8 × V)} {k : List UInt8} {i : Nat} (h : plc ltN L k = i) (hi : L.length ≤ i) : hasK ltN L k = false := by
  unfold hasK
  rw [h, List.getElem?_eq_none hi]

set_option maxHeartbeats 4000000 in
theorem ref_find16 (g : Nat) (sl tl : Value) (d : C16) (k : List UInt8) (w : World) (hm : RD16 w g sl tl d) (hl : d.l.length ≤ 10000) :
    Calls Try.prog 9 #[.pointer (some ⟨g, 0, none⟩), sv16 k] w fun e w' => e = .returned (.tuple #[.int .i64 (plc ltN d.l k : Int), .bool (hasK ltN d.l k)]) ∧ Turn (fun _ => False) w w' := by
  obtain ⟨A, c, rfl⟩ := hm.row.shape
  have HR := Lib.hid hm.row
  have hobj := hm.box.cell 0
  generalize d.l = L at *
  have hplc := plc_le (lt := ltN) L k
  have hplc2 : Hid (∀ i, i < plc ltN L k → ∀ p, L[i]? = some p → Op.bytesLess p.1 k = true) := fun i hi p hp => plc_below hi hp
  have hplc3 : Hid (∀ p, L[plc ltN L k]? = some p → Op.bytesLess p.1 k = false) := fun p hp => plc_at hp
  have HH : Hid (∀ i p, plc ltN L k = i → L[i]? = some p → hasK ltN L k = decide (p.1 = k)) := fun i p h hp => has_at16 h hp
  have HHN : Hid (∀ i, plc ltN L k = i → L.length ≤ i → hasK ltN L k = false) := fun i h hi => has_not16 h hi
  generalize hasK ltN L k = b at *
  generalize hP : plc ltN L k = P at *
  clear hm
  go_enter Try.func9, Try.ntmps9
  go_wp2_with fail
  go_loop [6] (fun x6 => ∃ i : Nat, x6 = .int .i64 i ∧ i ≤ P) (fun x6 => L.length - (intOf x6).toNat)
  case atStart => exact ⟨0, rfl, Nat.zero_le _⟩
  case round =>
    obtain ⟨i, rfl, hi⟩ := hrel
    by_cases hlt : i < L.length
    · obtain ⟨p, hp⟩ : ∃ p, L[i]? = some p := ⟨_, List.getElem?_eq_getElem hlt⟩
      obtain ⟨ad, rfl, hc⟩ := obj_at16 HR.out hp
      have HC := Lib.hid hc
      have h1 := (hc w (Turn.refl _ w)).1
      clear hc
      by_cases hb : i < P
      · have hd := hplc2.out i hb p hp
        have HP := Lib.hid hp; clear hp
        go_wp2
        go_round
        case rel => exact ⟨i + 1, by go_num, by omega⟩
        case measure => simp [intOf]; omega
      · have ei : i = P := by omega
        subst ei
        have hd := hplc3.out p hp
        have HK := Lib.hid (HH.out i p rfl hp)
        clear hp
        obtain ⟨pn, pf⟩ := p
        dsimp only at h1 hd HK
        by_cases he : pn = k
        · subst he
          have heq : (pn == pn) = true := beq_self_eq_true _
          have HK2 : Hid (b = true) := by show b = _; rw [HK.out, decide_eq_true rfl]
          clear HK
          go_wp2
          go_quiet (fail)
          go_wp2
          go_ret2
          exact ⟨by rw [HK2.out]; rfl, (Turn.refl _ w).drewN _⟩
        · have heq : (pn == k) = false := by rw [beq_eq_false_iff_ne]; exact he
          have HK2 : Hid (b = false) := by show b = _; rw [HK.out, decide_eq_false he]
          clear HK he
          go_wp2
          go_quiet (fail)
          go_wp2
          go_ret2
          exact ⟨by rw [HK2.out]; rfl, (Turn.refl _ w).drewN _⟩
    · have ei : i = P := by omega
      subst ei
      have HK := Lib.hid (HHN.out i rfl (by omega))
      go_wp2
      go_quiet (fail)
      go_wp2
      go_ret2
      exact ⟨by rw [HK.out]; rfl, (Turn.refl _ w).drewN _⟩


/-- Behind a call's turn. -/
def Turned16 (w : World) (g : Nat) (sl tl : Value) (s : C16) (n : List UInt8) (e : Ending) (w' : World) : Prop := e = .returned (.int .i64 (turnA16 s n)) ∧ ∃ tl', RD16 w' g sl tl' (turnS16 s n) ∧ Turn (fun k => k = g) w w' ∧ Own16 w tl tl'
set_option maxHeartbeats 4000000 in
theorem ref_turn16 (g : Nat) (sl tl : Value) (s : C16) (n : List UInt8) (hnl : n.length ≤ 1000000) (w : World) (hm : RD16 w g sl tl s) (hl : s.t.length ≤ 1000) :
    Calls Try.prog 35 #[.pointer (some ⟨g, 0, none⟩), sv16 n] w fun e w' => Turned16 w g sl tl s n e w' := by
  have HM := Lib.hid hm
  have hsz : ByteArray.size ⟨n.toArray⟩ = n.length := rfl
  by_cases h1 : 1 ≤ n.length
  · by_cases h2 : n.length ≤ 40
    · have HN : Hid (named15 n = true) := by show _ = _; unfold named15; rw [decide_eq_true h1, decide_eq_true h2]; rfl
      cases hst : s.t with
      | nil =>
        have HA : Hid (turnA16 s n = 0 ∧ turnS16 s n = s) := by
          unfold turnA16 turnS16
          rw [HN.out, if_neg (by decide), if_neg (by decide), hst]
          refine ⟨rfl, ?_⟩
          cases s
          dsimp only at hst
          subst hst
          rfl
        obtain ⟨B, cb, htl⟩ := hm.trow.shape
        rw [hst] at htl
        have c1 := hm.box.cell 1
        rw [htl] at c1
        have HTL := Lib.hid htl
        clear hm hst htl hl
        go_enter Try.func35, Try.ntmps35
        go_wp2
        go_ret
        exact ⟨by rw [HA.out.1]; rfl, tl, by rw [HA.out.2]; exact HM.out, Turn.refl _ _, Own16.refl _ _⟩
      | cons a r =>
        have HA : Hid (turnA16 s n = (if a then 14 else 0) ∧ turnS16 s n = { s with t := r }) := by
          refine ⟨?_, ?_⟩
          · unfold turnA16
            rw [if_neg (by rw [HN.out]; decide), hst]
          · unfold turnS16
            rw [if_neg (by rw [HN.out]; decide), hst]
            rfl
        obtain ⟨B, cb, htl⟩ := hm.trow.shape
        have htr := hm.trow
        rw [htl] at htr
        obtain ⟨ad, rfl, hc⟩ := turn_at16 htr (j := 0) (p := a) (by rw [hst]; rfl)
        have a0 := hc w (Turn.refl _ _)
        rw [show ad.add 0 = ad from rfl] at a0
        have c1 := hm.box.cell 1
        have f1 := hm.box.free 1
        rw [htl] at c1
        have hlen : s.t.length = r.length + 1 := by rw [hst]; rfl
        have HDR : Hid (s.t.drop 1 = r) := by show _ = _; rw [hst]; rfl
        have HTR := Lib.hid htr
        have HTL := Lib.hid htl
        have HLL := Lib.hid hlen
        have HSZ : Hid ((Try.prog.info? 4).map (·.size) = some EB16.sz) := by show _ = _; kernel_rfl
        generalize s.t.length = N at *
        have hb0 : ((N : Int) == 0) = false := by rw [beq_eq_false_iff_ne]; omega
        have hN : 1 ≤ N := by omega
        have hk : Hid (Value.int .i64 1 = .int .i64 ((1 : Nat) : Int)) := rfl
        clear hm hst htl htr hc hl hlen
        cases a with
        | true =>
          go_enter Try.func35, Try.ntmps35
          go_wp2_with (refine wpList_cut (E := EB16) (i := 1) (op := ⟨some 31, _, _, _, _, _⟩) Try.underlying29 HSZ.out rfl _ _ rfl HTR.out rfl hk.out hN ?_; intro B8 h8 o8; have HR8 := Lib.hid h8; have HO8 := Lib.hid o8; clear h8 o8)
          go_ret
          have hx := rd_turns16 (v := .slice B8 (N - 1) (cb - 1)) (T := r) HM.out (Turn.refl _ w) (by have h := HR8.out; rw [HDR.out] at h; exact h) (fun k hk => .inl (by rw [HTL.out]; exact HO8.out k hk)) (fun k hk => HM.out.tlt k (by rw [HTL.out]; exact HO8.out k hk))
          exact ⟨by rw [HA.out.1]; rfl, _, by rw [HA.out.2]; exact hx.1, hx.2, fun k hk => .inl (by rw [HTL.out]; exact HO8.out k hk)⟩
        | false =>
          go_enter Try.func35, Try.ntmps35
          go_wp2_with (refine wpList_cut (E := EB16) (i := 1) (op := ⟨some 31, _, _, _, _, _⟩) Try.underlying29 HSZ.out rfl _ _ rfl HTR.out rfl hk.out hN ?_; intro B8 h8 o8; have HR8 := Lib.hid h8; have HO8 := Lib.hid o8; clear h8 o8)
          go_ret
          have hx := rd_turns16 (v := .slice B8 (N - 1) (cb - 1)) (T := r) HM.out (Turn.refl _ w) (by have h := HR8.out; rw [HDR.out] at h; exact h) (fun k hk => .inl (by rw [HTL.out]; exact HO8.out k hk)) (fun k hk => HM.out.tlt k (by rw [HTL.out]; exact HO8.out k hk))
          exact ⟨by rw [HA.out.1]; rfl, _, by rw [HA.out.2]; exact hx.1, hx.2, fun k hk => .inl (by rw [HTL.out]; exact HO8.out k hk)⟩
    · have HN : Hid (named15 n = false) := by show _ = _; unfold named15; rw [decide_eq_false h2, Bool.and_false]
      have HA : Hid (turnA16 s n = 2 ∧ turnS16 s n = s) := by unfold turnA16 turnS16; rw [if_pos HN.out, if_pos HN.out]; exact ⟨rfl, rfl⟩
      have h3 : 40 < n.length := by omega
      clear h2 hl hm
      go_enter Try.func35, Try.ntmps35
      go_wp2
      go_ret
      exact ⟨by rw [HA.out.1]; rfl, tl, by rw [HA.out.2]; exact HM.out, Turn.refl _ _, Own16.refl _ _⟩
  · have HN : Hid (named15 n = false) := by show _ = _; unfold named15; rw [decide_eq_false h1, Bool.false_and]
    have HA : Hid (turnA16 s n = 2 ∧ turnS16 s n = s) := by unfold turnA16 turnS16; rw [if_pos HN.out, if_pos HN.out]; exact ⟨rfl, rfl⟩
    have h3 : n.length < 1 := by omega
    clear h1 hl hm
    go_enter Try.func35, Try.ntmps35
    go_wp2
    go_ret
    exact ⟨by rw [HA.out.1]; rfl, tl, by rw [HA.out.2]; exact HM.out, Turn.refl _ _, Own16.refl _ _⟩

end Go.Proofs.Ytamcgoamkakpkaa

/-
  Stage 16: the document's Put, Get.
-/
namespace Go.Proofs.Ytamcgoamkakpkaa
open Go.RowKit

set_option maxRecDepth 100000

theorem turnS_l16 (s : C16) (n : List UInt8) : (turnS16 s n).l = s.l := by unfold turnS16; split <;> rfl
theorem turnS_t16 (s : C16) (n : List UInt8) : (turnS16 s n).t.length ≤ s.t.length := by
  unfold turnS16
  split
  · exact Nat.le_refl _
  · show s.t.tail.length ≤ _
    rw [List.length_tail]
    omega

set_option maxHeartbeats 16000000 in
theorem ref_put16 (g : Nat) (sl tl : Value) (s : C16) (n b : List UInt8) (hnl : n.length ≤ 1000000) (hbl : b.length ≤ 1000000) (w : World) (hm : RD16 w g sl tl s) (hl : s.l.length ≤ 10000) (ht : s.t.length ≤ 1000) :
    Calls Try.prog 23 #[.pointer (some ⟨g, 0, none⟩), sv16 n, sv16 b] w fun e w' => Does16 w g sl tl (put16 s n b).1 (.int .i64 (put16 s n b).2) e w' := by
  have HTU := Lib.hid (ref_turn16 g sl tl s n hnl w hm ht)
  have HL : Hid (∀ x, x = turnA16 s n → (x ≠ 0 → put16 s n b = (turnS16 s n, x)) ∧ (x = 0 → put16 s n b = ({ turnS16 s n with l := putK ltN s.l n b }, 0))) := by
    intro x hx
    refine ⟨fun h => ?_, fun h => ?_⟩
    · unfold put16
      rw [if_neg (by rw [← hx]; exact h), hx]
    · unfold put16
      rw [if_pos (by rw [← hx]; exact h), if_neg (by omega)]
  have HSL : Hid ((turnS16 s n).l = s.l) := turnS_l16 s n
  have hsz : ByteArray.size ⟨b.toArray⟩ = b.length := rfl
  unfold Turned16 at HTU
  generalize turnS16 s n = s2 at *
  generalize turnA16 s n = x at *
  have HX := HL.out x rfl
  clear HL hm
  by_cases h0 : x = 0
  · subst h0
    have HA := Lib.hid (HX.2 rfl)
    clear HX
    rw [← HSL.out] at HA hl
    have hple := plc_le (lt := ltN) s2.l n
    have hule := upK_le (lt := ltN) s2.l n
    have HU : Hid (upK ltN s2.l n = if hasK ltN s2.l n then plc ltN s2.l n + 1 else plc ltN s2.l n) := rfl
    have HPUT : Hid (putK ltN s2.l n b = s2.l.take (plc ltN s2.l n) ++ (n, b) :: s2.l.drop (upK ltN s2.l n)) := rfl
    have HFN : Hid (∀ sl tl w, RD16 w g sl tl s2 → Calls Try.prog 9 #[.pointer (some ⟨g, 0, none⟩), sv16 n] w fun e w' => e = .returned (.tuple #[.int .i64 (plc ltN s2.l n : Int), .bool (hasK ltN s2.l n)]) ∧ Turn (fun _ => False) w w') := fun sl tl w hm => ref_find16 g sl tl s2 n w hm hl
    generalize plc ltN s2.l n = P at *
    generalize upK ltN s2.l n = U at *
    generalize hasK ltN s2.l n = is at *
    have HSZ : Hid ((Try.prog.info? 59).map (·.size) = some E16.sz) := by show _ = _; kernel_rfl
    go_enter Try.func23, Try.ntmps23
    go_wp2_with fail
    refine HTU.out.mono ?_
    rintro e w1 ⟨rfl, tl1, hm1, t1, o1⟩
    have HM1 := Lib.hid hm1; have HT1 := Lib.hid t1; have HO1 := Lib.hid o1
    clear hm1 t1 o1 HTU
    go_wp2_with fail
    refine (HFN.out _ _ w1 HM1.out).mono ?_
    rintro e w2 ⟨rfl, t2⟩
    obtain ⟨A, c, rfl⟩ := HM1.out.row.shape
    have HM2 := Lib.hid (HM1.out.later t2)
    have HT2 := Lib.hid t2
    have c0 := HM2.out.box.cell 0
    have hfit := HM2.out.row.fits
    have hPc : P ≤ c := by omega
    have HW0 : Hid (Turn (fun _ => False) w2 (w2.alloc (.cells #[] 59))) := (Turn.refl _ w2).alloc _
    have HN0 := Lib.hid (NewE.empty (E := E16) (e := 59) w2 w2 (Turn.refl _ w2))
    have HR7 : Hid (RdE E16 (w2.alloc (.cells #[] 59)) (.slice A P c) (s2.l.take P)) := (HM2.out.row.front P hple).later HW0.out
    have HLT : Hid ((s2.l.take P).length ≤ 10000) := by show _ ≤ _; rw [List.length_take]; omega
    have HLD : Hid (∀ k, (s2.l.drop k).length ≤ 10000) := fun k => by rw [List.length_drop]; omega
    have HMX : Hid (∀ k, k ≤ 100000 → k ≤ maxLen) := fun k hk => by simp only [maxLen]; omega
    have HQ1 : Hid (([] : List (List UInt8 × List UInt8)).length + (s2.l.take P).length ≤ maxLen) := HMX.out _ (by have := HLT.out; simp only [List.length_nil]; omega)
    have HQ2 : Hid ((([] : List (List UInt8 × List UInt8)).length + (s2.l.take P).length) * 32 ≤ 140737488355328) := by have := HLT.out; show _ ≤ _; simp only [List.length_nil]; omega
    have HQ3 : Hid (([] ++ s2.l.take P).length + [(n, b)].length ≤ maxLen) := HMX.out _ (by have := HLT.out; simp only [List.nil_append, List.length_cons, List.length_nil]; omega)
    have HQ4 : Hid ((([] ++ s2.l.take P).length + [(n, b)].length) * 32 ≤ 140737488355328) := by have := HLT.out; show _ ≤ _; simp only [List.nil_append, List.length_cons, List.length_nil]; omega
    have HQ5 : Hid (∀ R : List (List UInt8 × List UInt8), R.length ≤ 10000 → ([] ++ s2.l.take P ++ [(n, b)]).length + R.length ≤ maxLen) := fun R h => HMX.out _ (by have := HLT.out; simp only [List.nil_append, List.length_append, List.length_cons, List.length_nil]; omega)
    have HQ6 : Hid (∀ R : List (List UInt8 × List UInt8), R.length ≤ 10000 → (([] ++ s2.l.take P ++ [(n, b)]).length + R.length) * 32 ≤ 140737488355328) := fun R h => by have := HLT.out; simp only [List.nil_append, List.length_append, List.length_cons, List.length_nil]; omega
    have cA := (HM2.out.later HW0.out).box.cell 0
    clear t2 hfit
    cases is with
    | false =>
      have eU : P = U := by have h := HU.out; simpa using h.symm
      subst eU
      have HN1x : Hid (∀ w3 A2 n2 c2, NewE E16 59 w2 w3 (.slice A2 n2 c2) ([] ++ s2.l.take P) → NewE E16 59 w2 (w3.alloc (.cells (E16.enc (n, b)).toArray 59)) (.slice A2 n2 c2) ([] ++ s2.l.take P)) := fun w3 A2 n2 c2 h => h.alloc _
      go_wp2_with (first
        | (with_reducible refine wpList_cut (E := E16) (op := ⟨some 31, _, _, _, _, _⟩) Try.underlying28 HSZ.out rfl _ _ rfl HM2.out.row rfl rfl hple ?_; intro B8 h8 o8; have HR8 := Lib.hid h8; have HLR := Lib.hid (HLD.out P); clear h8 o8)
        | (at_builtin; go_must (refine wpList_appE (E := E16) Try.underlying28 obj_info16 obj_zero16 _ rfl _ _ _ rfl _ _ rfl HN0.out.own _ rfl (s2.l.take P) (HR7.out.src Try.underlying28) HQ1.out HQ2.out ?_))
        | fail)
      intro A2 n2 c2 w3 ho ht hn
      have HN1 := Lib.hid (HN1x.out _ _ _ _ (HN0.out.step ho ht (by rw [World.size_alloc]; exact hn)))
      have HX := Lib.hid (one_row E16 59 w3 (n, b))
      clear ho ht hn HN0
      go_wp2_with (at_builtin; go_must (refine wpList_appE (E := E16) Try.underlying28 obj_info16 obj_zero16 _ rfl _ _ _ rfl _ _ rfl HN1.out.own _ rfl [(n, b)] (HX.out.src Try.underlying28) HQ3.out HQ4.out ?_))
      intro A3 n3 c3 w4 ho ht hn
      have HN2 := Lib.hid (HN1.out.step ho ht (by rw [World.size_alloc]; exact hn))
      have HRX := Lib.hid (HR8.out.later HN2.out.turn)
      clear ho ht hn HN1
      go_wp2_with (at_builtin; go_must (refine wpList_appE (E := E16) Try.underlying28 obj_info16 obj_zero16 _ rfl _ _ _ rfl _ _ rfl HN2.out.own _ rfl (s2.l.drop P) (HRX.out.src Try.underlying28) (HQ5.out _ HLR.out) (HQ6.out _ HLR.out) ?_))
      intro A4 n4 c4 w5 ho ht hn
      have HN3 := Lib.hid (HN2.out.step ho ht hn)
      have hbx := HM2.out.box.turn HN3.out.turn (fun f => f)
      have z1 := hbx.cell 0
      have z2 := hbx.free 0
      clear ho ht hn HN2 hbx
      go_wp2
      have HST := Lib.hid (rd_set16 HM2.out HN3.out)
      go_ret
      rw [HA.out]
      refine ⟨rfl, .slice A4 n4 c4, tl1, ?_, (HT1.out.trans HT2.out (fun _ _ f => f.elim)).trans HST.out.2 (fun _ _ e => e), fun k hk => .inr ?_, HO1.out⟩
      · rw [HPUT.out]
        have h := HST.out.1
        try rw [List.nil_append, List.append_assoc] at h
        exact h
      · exact Nat.le_trans (Nat.le_trans HT1.out.size HT2.out.size) (HN3.out.new k hk)
    | true =>
      have eU : U = P + 1 := by have h := HU.out; simpa using h
      subst eU
      have HSZ2 : Hid ((Try.prog.info? 59).map (·.size) = some E16.sz) := HSZ.out
      have hk2 : Hid (Value.int .i64 ((P : Int) + 1) = .int .i64 ((P + 1 : Nat) : Int)) := rfl
      have HN1x : Hid (∀ w3 A2 n2 c2, NewE E16 59 w2 w3 (.slice A2 n2 c2) ([] ++ s2.l.take P) → NewE E16 59 w2 (w3.alloc (.cells (E16.enc (n, b)).toArray 59)) (.slice A2 n2 c2) ([] ++ s2.l.take P)) := fun w3 A2 n2 c2 h => h.alloc _
      go_wp2_with (first
        | (with_reducible refine wpList_cut (E := E16) (op := ⟨some 31, _, _, _, _, _⟩) Try.underlying28 HSZ.out rfl _ _ rfl HM2.out.row rfl rfl hple ?_; intro B7 h7 o7; clear h7 o7)
        | (at_builtin; go_must (refine wpList_appE (E := E16) Try.underlying28 obj_info16 obj_zero16 _ rfl _ _ _ rfl _ _ rfl HN0.out.own _ rfl (s2.l.take P) (HR7.out.src Try.underlying28) HQ1.out HQ2.out ?_))
        | (have HGO := HSZ2.out; refine wpList_cut (E := E16) (i := P + 1) (op := ⟨some 39, _, _, _, _, _⟩) Try.underlying28 HGO rfl _ _ rfl HM2.out.row rfl hk2.out hule ?_; intro B8 h8 o8; have HR8 := Lib.hid h8; have HLR := Lib.hid (HLD.out (P + 1)); clear h8 o8 HSZ2 HGO)
        | fail)
      intro A2 n2 c2 w3 ho ht hn
      have HN1 := Lib.hid (HN1x.out _ _ _ _ (HN0.out.step ho ht (by rw [World.size_alloc]; exact hn)))
      have HX := Lib.hid (one_row E16 59 w3 (n, b))
      clear ho ht hn HN0
      go_wp2_with (at_builtin; go_must (refine wpList_appE (E := E16) Try.underlying28 obj_info16 obj_zero16 _ rfl _ _ _ rfl _ _ rfl HN1.out.own _ rfl [(n, b)] (HX.out.src Try.underlying28) HQ3.out HQ4.out ?_))
      intro A3 n3 c3 w4 ho ht hn
      have HN2 := Lib.hid (HN1.out.step ho ht (by rw [World.size_alloc]; exact hn))
      have HRX := Lib.hid (HR8.out.later HN2.out.turn)
      clear ho ht hn HN1
      go_wp2_with (at_builtin; go_must (refine wpList_appE (E := E16) Try.underlying28 obj_info16 obj_zero16 _ rfl _ _ _ rfl _ _ rfl HN2.out.own _ rfl (s2.l.drop (P + 1)) (HRX.out.src Try.underlying28) (HQ5.out _ HLR.out) (HQ6.out _ HLR.out) ?_))
      intro A4 n4 c4 w5 ho ht hn
      have HN3 := Lib.hid (HN2.out.step ho ht hn)
      have hbx := HM2.out.box.turn HN3.out.turn (fun f => f)
      have z1 := hbx.cell 0
      have z2 := hbx.free 0
      clear ho ht hn HN2 hbx
      go_wp2
      have HST := Lib.hid (rd_set16 HM2.out HN3.out)
      go_ret
      rw [HA.out]
      refine ⟨rfl, .slice A4 n4 c4, tl1, ?_, (HT1.out.trans HT2.out (fun _ _ f => f.elim)).trans HST.out.2 (fun _ _ e => e), fun k hk => .inr ?_, HO1.out⟩
      · rw [HPUT.out]
        have h := HST.out.1
        try rw [List.nil_append, List.append_assoc] at h
        exact h
      · exact Nat.le_trans (Nat.le_trans HT1.out.size HT2.out.size) (HN3.out.new k hk)
  · have HA := Lib.hid (HX.1 h0)
    have hx1 : (x == 0) = false := by rw [beq_eq_false_iff_ne]; exact h0
    have hx2 : (x != 0) = true := by rw [bne_iff_ne]; exact h0
    clear HX h0
    go_enter Try.func23, Try.ntmps23
    go_wp2_with fail
    refine HTU.out.mono ?_
    rintro e w1 ⟨rfl, tl1, hm1, t1, o1⟩
    have HM1 := Lib.hid hm1; have HT1 := Lib.hid t1; have HO1 := Lib.hid o1
    clear hm1 t1 o1 HTU
    go_wp2
    go_ret
    rw [HA.out]
    exact ⟨rfl, _, tl1, HM1.out, HT1.out, Own16.refl _ _, HO1.out⟩

end Go.Proofs.Ytamcgoamkakpkaa

/-
  Stage 16: the document's Get, Delete, Bytes.
-/
namespace Go.Proofs.Ytamcgoamkakpkaa
open Go.RowKit

set_option maxRecDepth 100000

theorem get_has16 {V : Type} {L : List (List UInt8 × V)} {k : List UInt8} (h : hasK ltN L k = true) : ∃ v, L[plc ltN L k]? = some (k, v) ∧ getK ltN L k = some v := by
  obtain ⟨p, hp, he⟩ := hasK_iff.1 h
  obtain ⟨a, v⟩ := p
  dsimp only at he
  subst he
  refine ⟨v, hp, ?_⟩
  unfold getK
  rw [hp]
  exact if_pos rfl
theorem get_not16 {V : Type} {L : List (List UInt8 × V)} {k : List UInt8} (h : hasK ltN L k = false) : getK ltN L k = none := by
  rw [has_get] at h
  exact Option.not_isSome_iff_eq_none.1 (by rw [h]; simp)
theorem take_snoc16 {A : Type} {l : List A} {i : Nat} {x : A} (h : l[i]? = some x) : l.take (i + 1) = l.take i ++ [x] := by
  obtain ⟨h0, e⟩ := List.getElem?_eq_some_iff.1 h
  rw [List.take_succ_eq_append_getElem h0, e]

/-- Behind Get. -/
def Gets16 (w : World) (g : Nat) (s0 t0 : Value) (s : C16) (r : List UInt8 × Int) (e : Ending) (w' : World) : Prop := Does16 w g s0 t0 s (.tuple #[sv16 r.1, .int .i64 r.2]) e w'
set_option maxHeartbeats 8000000 in
theorem ref_get16 (g : Nat) (sl tl : Value) (s : C16) (n : List UInt8) (hnl : n.length ≤ 1000000) (w : World) (hm : RD16 w g sl tl s) (hl : s.l.length ≤ 10000) (ht : s.t.length ≤ 1000) :
    Calls Try.prog 24 #[.pointer (some ⟨g, 0, none⟩), sv16 n] w fun e w' => Gets16 w g sl tl (get16 s n).1 (get16 s n).2 e w' := by
  have HTU := Lib.hid (ref_turn16 g sl tl s n hnl w hm ht)
  have HL : Hid (∀ x, x = turnA16 s n → (x ≠ 0 → get16 s n = (turnS16 s n, ([], x))) ∧ (x = 0 → get16 s n = (match getK ltN s.l n with
    | none => (turnS16 s n, ([], 11))
    | some b => (turnS16 s n, (b, 0))))) := by
    intro x hx
    refine ⟨fun h => ?_, fun h => ?_⟩
    · unfold get16
      rw [if_neg (by rw [← hx]; exact h), hx]
    · unfold get16
      rw [if_pos (by rw [← hx]; exact h)]
      first
      | done
      | (cases getK ltN s.l n <;> rfl)
  have HSL : Hid ((turnS16 s n).l = s.l) := turnS_l16 s n
  unfold Turned16 at HTU
  generalize turnS16 s n = s2 at *
  generalize turnA16 s n = x at *
  have HX := HL.out x rfl
  clear HL hm
  by_cases h0 : x = 0
  · subst h0
    have HA := Lib.hid (HX.2 rfl)
    clear HX
    rw [← HSL.out] at HA hl
    have HFN : Hid (∀ sl tl w, RD16 w g sl tl s2 → Calls Try.prog 9 #[.pointer (some ⟨g, 0, none⟩), sv16 n] w fun e w' => e = .returned (.tuple #[.int .i64 (plc ltN s2.l n : Int), .bool (hasK ltN s2.l n)]) ∧ Turn (fun _ => False) w w') := fun sl tl w hm => ref_find16 g sl tl s2 n w hm hl
    cases hh : hasK ltN s2.l n with
    | false =>
      have HB : Hid (get16 s n = (s2, ([], 11))) := by show _ = _; rw [HA.out, get_not16 hh]
      rw [hh] at HFN
      clear hh HA
      generalize plc ltN s2.l n = P at *
      go_enter Try.func24, Try.ntmps24
      go_wp2_with fail
      refine HTU.out.mono ?_
      rintro e w1 ⟨rfl, tl1, hm1, t1, o1⟩
      have HM1 := Lib.hid hm1; have HT1 := Lib.hid t1; have HO1 := Lib.hid o1
      clear hm1 t1 o1 HTU
      go_wp2_with fail
      refine (HFN.out _ _ w1 HM1.out).mono ?_
      rintro e w2 ⟨rfl, t2⟩
      have HT2 := Lib.hid t2
      clear t2
      go_wp2
      go_ret2
      rw [HB.out]
      exact ⟨rfl, sl, tl1, HM1.out.later HT2.out, HT1.out.trans HT2.out (fun _ _ f => f.elim), Own16.refl _ _, HO1.out⟩
    | true =>
      obtain ⟨b, hv, hg⟩ := get_has16 hh
      have HB : Hid (get16 s n = (s2, (b, 0))) := by show _ = _; rw [HA.out, hg]
      have hlt : plc ltN s2.l n < s2.l.length := (List.getElem?_eq_some_iff.1 hv).1
      rw [hh] at HFN
      clear hh HA hg
      generalize plc ltN s2.l n = P at *
      have HV := Lib.hid hv
      clear hv
      have hpl : (P : Int) < s2.l.length := by omega
      go_enter Try.func24, Try.ntmps24
      go_wp2_with fail
      refine HTU.out.mono ?_
      rintro e w1 ⟨rfl, tl1, hm1, t1, o1⟩
      have HM1 := Lib.hid hm1; have HT1 := Lib.hid t1; have HO1 := Lib.hid o1
      clear hm1 t1 o1 HTU
      go_wp2_with fail
      refine (HFN.out _ _ w1 HM1.out).mono ?_
      rintro e w2 ⟨rfl, t2⟩
      obtain ⟨A, c, rfl⟩ := HM1.out.row.shape
      obtain ⟨ad, rfl, hc⟩ := obj_at16 HM1.out.row HV.out
      obtain ⟨x0, x1⟩ := hc w2 t2
      have c0 := (HM1.out.box.turn t2 (fun f => f)).cell 0
      have HT2 := Lib.hid t2
      clear t2 hc
      go_wp2_with fail
      try go_quiet (fail)
      try go_wp2
      go_ret2
      rw [HB.out]
      exact ⟨rfl, _, tl1, HM1.out.later (HT2.out.trans ((Turn.refl _ w2)) (fun _ _ f => f)), HT1.out.trans HT2.out (fun _ _ f => f.elim), Own16.refl _ _, HO1.out⟩
  · have HA := Lib.hid (HX.1 h0)
    have hx1 : (x == 0) = false := by rw [beq_eq_false_iff_ne]; exact h0
    have hx2 : (x != 0) = true := by rw [bne_iff_ne]; exact h0
    clear HX h0
    go_enter Try.func24, Try.ntmps24
    go_wp2_with fail
    refine HTU.out.mono ?_
    rintro e w1 ⟨rfl, tl1, hm1, t1, o1⟩
    have HM1 := Lib.hid hm1; have HT1 := Lib.hid t1; have HO1 := Lib.hid o1
    clear hm1 t1 o1 HTU
    go_wp2
    go_ret2
    rw [HA.out]
    exact ⟨rfl, sl, tl1, HM1.out, HT1.out, Own16.refl _ _, HO1.out⟩

set_option maxHeartbeats 16000000 in
theorem ref_del16 (g : Nat) (sl tl : Value) (s : C16) (n : List UInt8) (hnl : n.length ≤ 1000000) (w : World) (hm : RD16 w g sl tl s) (hl : s.l.length ≤ 10000) (ht : s.t.length ≤ 1000) :
    Calls Try.prog 25 #[.pointer (some ⟨g, 0, none⟩), sv16 n] w fun e w' => Does16 w g sl tl (del16 s n).1 (.int .i64 (del16 s n).2) e w' := by
  have HTU := Lib.hid (ref_turn16 g sl tl s n hnl w hm ht)
  have HL : Hid (∀ x, x = turnA16 s n → (x ≠ 0 → del16 s n = (turnS16 s n, x)) ∧ (x = 0 → del16 s n = (if hasK ltN s.l n then ({ turnS16 s n with l := dropK ltN s.l n }, 0) else (turnS16 s n, 11)))) := by
    intro x hx
    refine ⟨fun h => ?_, fun h => ?_⟩
    · unfold del16
      rw [if_neg (by rw [← hx]; exact h), hx]
    · unfold del16
      rw [if_pos (by rw [← hx]; exact h)]
  have HSL : Hid ((turnS16 s n).l = s.l) := turnS_l16 s n
  unfold Turned16 at HTU
  generalize turnS16 s n = s2 at *
  generalize turnA16 s n = x at *
  have HX := HL.out x rfl
  clear HL hm
  by_cases h0 : x = 0
  · subst h0
    have HA := Lib.hid (HX.2 rfl)
    clear HX
    rw [← HSL.out] at HA hl
    have HFN : Hid (∀ sl tl w, RD16 w g sl tl s2 → Calls Try.prog 9 #[.pointer (some ⟨g, 0, none⟩), sv16 n] w fun e w' => e = .returned (.tuple #[.int .i64 (plc ltN s2.l n : Int), .bool (hasK ltN s2.l n)]) ∧ Turn (fun _ => False) w w') := fun sl tl w hm => ref_find16 g sl tl s2 n w hm hl
    cases hh : hasK ltN s2.l n with
    | false =>
      have HB : Hid (del16 s n = (s2, 11)) := by show _ = _; rw [HA.out, hh]; rfl
      rw [hh] at HFN
      clear hh HA
      generalize plc ltN s2.l n = P at *
      go_enter Try.func25, Try.ntmps25
      go_wp2_with fail
      refine HTU.out.mono ?_
      rintro e w1 ⟨rfl, tl1, hm1, t1, o1⟩
      have HM1 := Lib.hid hm1; have HT1 := Lib.hid t1; have HO1 := Lib.hid o1
      clear hm1 t1 o1 HTU
      go_wp2_with fail
      refine (HFN.out _ _ w1 HM1.out).mono ?_
      rintro e w2 ⟨rfl, t2⟩
      have HT2 := Lib.hid t2
      clear t2
      go_wp2
      go_ret
      rw [HB.out]
      exact ⟨rfl, sl, tl1, HM1.out.later HT2.out, HT1.out.trans HT2.out (fun _ _ f => f.elim), Own16.refl _ _, HO1.out⟩
    | true =>
      have HB : Hid (del16 s n = ({ s2 with l := dropK ltN s2.l n }, 0)) := by show _ = _; rw [HA.out, hh]; rfl
      have HD : Hid (dropK ltN s2.l n = s2.l.take (plc ltN s2.l n) ++ s2.l.drop (plc ltN s2.l n + 1)) := by show _ = _; unfold dropK upK; rw [hh]; rfl
      obtain ⟨v, hv, -⟩ := get_has16 hh
      have hlt : plc ltN s2.l n < s2.l.length := (List.getElem?_eq_some_iff.1 hv).1
      have hple := plc_le (lt := ltN) s2.l n
      have HSZ : Hid ((Try.prog.info? 59).map (·.size) = some E16.sz) := by show _ = _; kernel_rfl
      have hE : ∀ W, (Instr.buildSlice 28 0 #[]).run Try.prog W = .ok (.slice (some ⟨W.heap.size, 0, none⟩) 0 0) (W.alloc (.cells #[] 59)) := fun W => by go_simp
      rw [hh] at HFN
      clear hh hv HA
      generalize plc ltN s2.l n = P at *
      have HWR : Hid (IntKind.i64.wrap ((P : Int) + 1) = (P : Int) + 1) := IntWalk.i64_in _ (by omega)
      have HE := Lib.hid hE
      clear hE
      go_enter Try.func25, Try.ntmps25
      go_wp2_with fail
      refine HTU.out.mono ?_
      rintro e wt ⟨rfl, tl1, hm1, t1, o1⟩
      have HM1 := Lib.hid hm1; have HT1 := Lib.hid t1; have HO1 := Lib.hid o1
      clear hm1 t1 o1 HTU
      go_wp2_with fail
      refine (HFN.out _ _ wt HM1.out).mono ?_
      rintro e wq ⟨rfl, t2⟩
      obtain ⟨A, c, rfl⟩ := HM1.out.row.shape
      have HMQ := Lib.hid (HM1.out.later t2)
      have HTW : Hid (Turn (fun k => k = g) w wq) := HT1.out.trans t2 (fun _ _ f => f.elim)
      have hfit := HMQ.out.row.fits
      have HPC : Hid (P ≤ c) := by show P ≤ c; omega
      clear t2 HFN hfit
      go_wp2_with fail
      refine drawn_region (fun W => Turn (fun _ => False) wq W) [19] (by kernel_rfl) ?_
      have HTD : Hid (Turn (fun _ => False) wq (World.drew wq)) := (Turn.refl _ wq).drew
      have hS0 := HTD.out
      generalize World.drew wq = wd at *
      have HTV : Hid (RdE E16 wq (tailV E16 A s2.l.length c (P + 1)) (s2.l.drop (P + 1))) := rd_tailV HMQ.out.row hlt
      obtain ⟨tv, htv⟩ : ∃ tv, tv = tailV E16 A s2.l.length c (P + 1) := ⟨_, rfl⟩
      have HTE := Lib.hid htv
      rw [← htv] at HTV
      obtain ⟨Bt, dt, etv⟩ := HTV.out.shape
      have HET := Lib.hid etv
      have HR8 : Hid (RdE E16 wq (.slice Bt (s2.l.drop (P + 1)).length dt) (s2.l.drop (P + 1))) := by rw [← etv]; exact HTV.out
      have HLR : Hid ((s2.l.drop (P + 1)).length ≤ 10000) := by show _ ≤ _; rw [List.length_drop]; omega
      have HR7 : Hid (RdE E16 wq (.slice A P c) (s2.l.take P)) := HMQ.out.row.front P hple
      have HLT : Hid ((s2.l.take P).length ≤ 10000) := by show _ ≤ _; rw [List.length_take]; omega
      generalize s2.l.drop (P + 1) = R8 at *
      generalize s2.l.take P = R7 at *
      clear htv etv HTV
      generalize hn8 : R8.length = n8 at *
      refine drawn_take 0 22 (.pointer (some ⟨g, 0, none⟩)) rfl rfl (by kernel_rfl) (by kernel_rfl) (by kernel_rfl) (by kernel_rfl) (fun _ _ _ h => h) (by rfl) (by assumption) (by intro w hSw; obtain hS1 := hSw; go_simp) ?_
      try simp only [List.setIfInBounds_toArray, List.set_cons_zero, List.set_cons_succ]
      refine drawn_take 2 24 (.pointer (some ⟨g, 0, none⟩)) rfl rfl (by kernel_rfl) (by kernel_rfl) (by kernel_rfl) (by kernel_rfl) (fun _ _ _ h => h) (by rfl) (by assumption) (by intro w hSw; obtain hS1 := hSw; go_simp) ?_
      try simp only [List.setIfInBounds_toArray, List.set_cons_zero, List.set_cons_succ]
      refine drawn_take 3 25 (.pointer (some ⟨g, 0, none⟩)) rfl rfl (by kernel_rfl) (by kernel_rfl) (by kernel_rfl) (by kernel_rfl) (fun _ _ _ h => h) (by rfl) (by assumption) (by intro w hSw; obtain hS1 := hSw; go_simp) ?_
      try simp only [List.setIfInBounds_toArray, List.set_cons_zero, List.set_cons_succ]
      refine drawn_take 4 26 (.pointer (some ⟨g, 0, none⟩)) rfl rfl (by kernel_rfl) (by kernel_rfl) (by kernel_rfl) (by kernel_rfl) (fun _ _ _ h => h) (by rfl) (by assumption) (by intro w hSw; obtain hS1 := hSw; go_simp) ?_
      try simp only [List.setIfInBounds_toArray, List.set_cons_zero, List.set_cons_succ]
      refine drawn_take 5 27 (.slice A s2.l.length c) rfl rfl (by kernel_rfl) (by kernel_rfl) (by kernel_rfl) (by kernel_rfl) (fun _ _ _ h => h) (by rfl) (by assumption) (by intro w hSw; have a0 := (HMQ.out.box.turn hSw (fun f => f)).cell 0; clear hSw; go_simp) ?_
      try simp only [List.setIfInBounds_toArray, List.set_cons_zero, List.set_cons_succ]
      refine drawn_take 6 28 (.int .i64 (P : Int)) rfl rfl (by kernel_rfl) (by kernel_rfl) (by kernel_rfl) (by kernel_rfl) (fun _ _ _ h => h) (by rfl) (by assumption) (by intro w hSw; obtain hS1 := hSw; go_simp) ?_
      try simp only [List.setIfInBounds_toArray, List.set_cons_zero, List.set_cons_succ]
      refine drawn_take 7 29 (.slice A P c) rfl rfl (by kernel_rfl) (by kernel_rfl) (by kernel_rfl) (by kernel_rfl) (fun _ _ _ h => h) (by rfl) (by assumption) (by intro w hSw; exact exec_front (E := E16) rfl rfl rfl Try.underlying28 HSZ.out HPC.out w) ?_
      try simp only [List.setIfInBounds_toArray, List.set_cons_zero, List.set_cons_succ]
      refine drawn_take 9 31 (.pointer (some ⟨g, 0, none⟩)) rfl rfl (by kernel_rfl) (by kernel_rfl) (by kernel_rfl) (by kernel_rfl) (fun _ _ _ h => h) (by rfl) (by assumption) (by intro w hSw; obtain hS1 := hSw; go_simp) ?_
      try simp only [List.setIfInBounds_toArray, List.set_cons_zero, List.set_cons_succ]
      refine drawn_take 10 32 (.pointer (some ⟨g, 0, none⟩)) rfl rfl (by kernel_rfl) (by kernel_rfl) (by kernel_rfl) (by kernel_rfl) (fun _ _ _ h => h) (by rfl) (by assumption) (by intro w hSw; obtain hS1 := hSw; go_simp) ?_
      try simp only [List.setIfInBounds_toArray, List.set_cons_zero, List.set_cons_succ]
      refine drawn_take 11 33 (.pointer (some ⟨g, 0, none⟩)) rfl rfl (by kernel_rfl) (by kernel_rfl) (by kernel_rfl) (by kernel_rfl) (fun _ _ _ h => h) (by rfl) (by assumption) (by intro w hSw; obtain hS1 := hSw; go_simp) ?_
      try simp only [List.setIfInBounds_toArray, List.set_cons_zero, List.set_cons_succ]
      refine drawn_take 12 34 (.slice A s2.l.length c) rfl rfl (by kernel_rfl) (by kernel_rfl) (by kernel_rfl) (by kernel_rfl) (fun _ _ _ h => h) (by rfl) (by assumption) (by intro w hSw; have a0 := (HMQ.out.box.turn hSw (fun f => f)).cell 0; clear hSw; go_simp) ?_
      try simp only [List.setIfInBounds_toArray, List.set_cons_zero, List.set_cons_succ]
      refine drawn_take 13 35 (.int .i64 (P : Int)) rfl rfl (by kernel_rfl) (by kernel_rfl) (by kernel_rfl) (by kernel_rfl) (fun _ _ _ h => h) (by rfl) (by assumption) (by intro w hSw; obtain hS1 := hSw; go_simp) ?_
      try simp only [List.setIfInBounds_toArray, List.set_cons_zero, List.set_cons_succ]
      refine drawn_take 14 36 (.int .i64 ((P : Int) + 1)) rfl rfl (by kernel_rfl) (by kernel_rfl) (by kernel_rfl) (by kernel_rfl) (fun _ _ _ h => h) (by rfl) (by assumption) (by intro w hSw; clear hSw; go_simp; exact HWR.out) ?_
      try simp only [List.setIfInBounds_toArray, List.set_cons_zero, List.set_cons_succ]
      refine drawn_take 15 37 (.slice Bt n8 dt) rfl rfl (by kernel_rfl) (by kernel_rfl) (by kernel_rfl) (by kernel_rfl) (fun _ _ _ h => h) (by rfl) (by assumption) (by intro w hSw; rw [← HET.out, HTE.out]; exact exec_tail (E := E16) rfl rfl rfl Try.underlying28 HSZ.out hlt w) ?_
      try simp only [List.setIfInBounds_toArray, List.set_cons_zero, List.set_cons_succ]
      refine drawn_any [1] (by kernel_rfl) (by simp) ?_
      refine drawn_cons rfl (fun K hK => ?_) drawn_nil
      go_simp
      have HN0 := Lib.hid (NewE.empty (E := E16) (e := 59) wq wd HTD.out)
      refine hK.out _ _ _ HN0.out.turn ?_
      clear hK K hS0
      have hS0 := HN0.out.turn
      try simp only [List.setIfInBounds_toArray, List.set_cons_zero, List.set_cons_succ]
      refine drawn_any [8] (by kernel_rfl) (by simp) ?_
      refine drawn_cons rfl (fun K hK => ?_) drawn_nil
      refine put_app Try.underlying28 obj_info16 obj_zero16 (by omega) [] HN0.out.own R7 (HR7.out.later hS0) (by have := HLT.out; simp only [List.length_nil]; omega) ?_
      intro A2 n2 c2 w2 ho ht hn2
      have HN1 := Lib.hid (HN0.out.step ho ht hn2)
      clear ho ht hn2
      refine hK.out _ _ _ HN1.out.turn ?_
      clear hK K hS0
      have hS0 := HN1.out.turn
      try simp only [List.setIfInBounds_toArray, List.set_cons_zero, List.set_cons_succ]
      refine drawn_any [16] (by kernel_rfl) (by simp) ?_
      refine drawn_cons rfl (fun K hK => ?_) drawn_nil
      refine put_app Try.underlying28 obj_info16 obj_zero16 (by omega) ([] ++ R7) HN1.out.own R8 (HR8.out.later hS0) (by have h1 := HLT.out; have h2 := HLR.out; simp only [List.nil_append]; omega) ?_
      intro A3 n3 c3 w3 ho ht hn3
      have HN2 := Lib.hid (HN1.out.step ho ht hn3)
      clear ho ht hn3
      refine hK.out _ _ _ HN2.out.turn ?_
      clear hK K hS0
      have hS0 := HN2.out.turn
      try simp only [List.setIfInBounds_toArray, List.set_cons_zero, List.set_cons_succ]
      refine drawn_take 17 39 (.pointer (some ⟨g, 0, none⟩)) rfl rfl (by kernel_rfl) (by kernel_rfl) (by kernel_rfl) (by kernel_rfl) (fun _ _ _ h => h) (by rfl) (by assumption) (by intro w hSw; obtain hS1 := hSw; go_simp) ?_
      try simp only [List.setIfInBounds_toArray, List.set_cons_zero, List.set_cons_succ]
      refine drawn_take 18 40 (.pointer (some ⟨g, 0, none⟩)) rfl rfl (by kernel_rfl) (by kernel_rfl) (by kernel_rfl) (by kernel_rfl) (fun _ _ _ h => h) (by rfl) (by assumption) (by intro w hSw; obtain hS1 := hSw; go_simp) ?_
      try simp only [List.setIfInBounds_toArray, List.set_cons_zero, List.set_cons_succ]
      refine drawn_last (z := 19) rfl (by kernel_rfl) (by kernel_rfl) (by kernel_rfl) (fun K hK => ?_)
      have hbx := HMQ.out.box.turn HN2.out.turn (fun f => f)
      have z1 := hbx.cell 0
      have z2 := hbx.free 0
      have HST := Lib.hid (rd_set16 HMQ.out HN2.out)
      clear hS0 hbx
      go_simp
      refine hK.out _ _ ?_
      clear hK K z1 z2
      go_wp2
      go_ret
      rw [HB.out]
      refine ⟨rfl, .slice A3 n3 c3, tl1, ?_, HTW.out.trans HST.out.2 (fun _ _ e => e), fun k hk => .inr (Nat.le_trans HTW.out.size (HN2.out.new k hk)), HO1.out⟩
      rw [HD.out]
      exact HST.out.1
  · have HA := Lib.hid (HX.1 h0)
    have hx1 : (x == 0) = false := by rw [beq_eq_false_iff_ne]; exact h0
    have hx2 : (x != 0) = true := by rw [bne_iff_ne]; exact h0
    clear HX h0
    go_enter Try.func25, Try.ntmps25
    go_wp2_with fail
    refine HTU.out.mono ?_
    rintro e w1 ⟨rfl, tl1, hm1, t1, o1⟩
    have HM1 := Lib.hid hm1; have HT1 := Lib.hid t1; have HO1 := Lib.hid o1
    clear hm1 t1 o1 HTU
    go_wp2
    go_ret
    rw [HA.out]
    exact ⟨rfl, sl, tl1, HM1.out, HT1.out, Own16.refl _ _, HO1.out⟩

end Go.Proofs.Ytamcgoamkakpkaa
