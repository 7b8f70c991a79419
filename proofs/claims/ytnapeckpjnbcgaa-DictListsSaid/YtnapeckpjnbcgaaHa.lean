
/-
  Lists of pairs whose keys rise, plain, in two parts about a key: what is put, dropped, the floor; trees, plain, and in memory.
-/
import Derived.Test.YtnapeckpjnbcgaaNa
import Derived.Test.YtnapeckpjnbcgaaOa
namespace Go.Proofs.Ytnapeckpjnbcgaa
open Go.RowKit
set_option linter.unusedSectionVars false

section
variable {K V : Type} [DecidableEq K] {lt : K → K → Bool}
theorem plc_cons (p : K × V) (l : List (K × V)) (k : K) : plc lt (p :: l) k = if lt p.1 k then plc lt l k + 1 else 0 := rfl
theorem hasK_nil (k : K) : hasK lt ([] : List (K × V)) k = false := rfl
theorem hasK_cons (p : K × V) (l : List (K × V)) (k : K) : hasK lt (p :: l) k = if lt p.1 k then hasK lt l k else decide (p.1 = k) := by
  unfold hasK
  rw [plc_cons]
  by_cases h : lt p.1 k = true
  · simp only [h, if_true, List.getElem?_cons_succ]
  · simp only [h, if_false, List.getElem?_cons_zero, Bool.false_eq_true]
theorem getK_cons (p : K × V) (l : List (K × V)) (k : K) : getK lt (p :: l) k = if lt p.1 k then getK lt l k else if p.1 = k then some p.2 else none := by
  unfold getK
  rw [plc_cons]
  by_cases h : lt p.1 k = true
  · simp only [h, if_true, List.getElem?_cons_succ]
  · simp only [h, if_false, List.getElem?_cons_zero, Bool.false_eq_true]
theorem upK_cons (p : K × V) (l : List (K × V)) (k : K) : upK lt (p :: l) k = if lt p.1 k then upK lt l k + 1 else if p.1 = k then 1 else 0 := by
  unfold upK
  rw [plc_cons, hasK_cons]
  by_cases h : lt p.1 k = true
  · rw [if_pos h, if_pos h, if_pos h]
    split <;> rfl
  · rw [if_neg h, if_neg h, if_neg h]
    by_cases e : p.1 = k
    · rw [if_pos e, decide_eq_true e]; rfl
    · rw [if_neg e, decide_eq_false e]; rfl
theorem putK_nil (k : K) (v : V) : putK lt [] k v = [(k, v)] := rfl
theorem putK_cons (p : K × V) (l : List (K × V)) (k : K) (v : V) : putK lt (p :: l) k v = if lt p.1 k then p :: putK lt l k v else if p.1 = k then (k, v) :: l else (k, v) :: p :: l := by
  unfold putK
  rw [plc_cons, upK_cons]
  by_cases h : lt p.1 k = true
  · rw [if_pos h, if_pos h, if_pos h]; rfl
  · rw [if_neg h, if_neg h, if_neg h]
    by_cases e : p.1 = k
    · rw [if_pos e, if_pos e]; rfl
    · rw [if_neg e, if_neg e]; rfl
theorem dropK_nil (k : K) : dropK lt ([] : List (K × V)) k = [] := rfl
theorem dropK_cons (p : K × V) (l : List (K × V)) (k : K) : dropK lt (p :: l) k = if lt p.1 k then p :: dropK lt l k else if p.1 = k then l else p :: l := by
  unfold dropK
  rw [plc_cons, upK_cons]
  by_cases h : lt p.1 k = true
  · rw [if_pos h, if_pos h, if_pos h]; rfl
  · rw [if_neg h, if_neg h, if_neg h]
    by_cases e : p.1 = k
    · rw [if_pos e, if_pos e]; rfl
    · rw [if_neg e, if_neg e]; rfl
theorem floorK_nil (k : K) : floorK lt ([] : List (K × V)) k = none := rfl
theorem floorK_cons (p : K × V) (l : List (K × V)) (k : K) : floorK lt (p :: l) k = if lt p.1 k then some ((floorK lt l k).getD p) else if p.1 = k then some p else none := by
  unfold floorK
  rw [upK_cons]
  by_cases h : lt p.1 k = true
  · rw [if_pos h, if_pos h, if_neg (by omega), Nat.add_sub_cancel]
    by_cases e : upK lt l k = 0
    · rw [if_pos e, e]; rfl
    · rw [if_neg e]
      have hl := upK_le (lt := lt) l k
      obtain ⟨n, hn⟩ : ∃ n, upK lt l k = n + 1 := ⟨upK lt l k - 1, by omega⟩
      rw [hn, List.getElem?_cons_succ, Nat.add_sub_cancel, List.getElem?_eq_getElem (by omega)]
      rfl
  · rw [if_neg h, if_neg h]
    by_cases e : p.1 = k
    · rw [if_pos e, if_pos e]; rfl
    · rw [if_neg e, if_neg e]; rfl

/-- All keys of l are below k. -/
def Below' (lt : K → K → Bool) (l : List (K × V)) (k : K) : Prop := ∀ p ∈ l, lt p.1 k = true
theorem up_parts {L R : List (K × V)} {p : K × V} (h : Up lt (L ++ p :: R)) : Up lt L ∧ Up lt R ∧ Below' lt L p.1 := by
  obtain ⟨h1, h2, h3⟩ := up_append.1 h
  obtain ⟨_, h5⟩ := up_cons.1 h2
  refine ⟨h1, h5, fun q hq => ?_⟩
  obtain ⟨i, hi, e⟩ := List.mem_iff_getElem.1 hq
  exact h3 i 0 q p (by rw [List.getElem?_eq_getElem hi, e]) rfl
theorem Below'.tr (hr : Rises lt) {l : List (K × V)} {a b : K} (h : Below' lt l a) (hab : lt a b = true) : Below' lt l b := fun p hp => hr.tr _ _ _ (h p hp) hab
theorem not_lt_of (hr : Rises lt) {a b : K} (h : lt a b = true) : lt b a = false := by
  cases h2 : lt b a with
  | false => rfl
  | true => have := hr.tr _ _ _ h h2; rw [hr.irr] at this; cases this
theorem ne_of_lt (hr : Rises lt) {a b : K} (h : lt a b = true) : b ≠ a := fun e => by rw [e, hr.irr] at h; cases h
theorem put_left (hr : Rises lt) {p : K × V} {k : K} (h : lt k p.1 = true) (v : V) (R : List (K × V)) : ∀ L : List (K × V), putK lt (L ++ p :: R) k v = putK lt L k v ++ p :: R
  | [] => by rw [List.nil_append, putK_cons, if_neg (by rw [not_lt_of hr h]; simp), if_neg (ne_of_lt hr h)]; rfl
  | q :: L => by
    rw [List.cons_append, putK_cons, putK_cons, put_left hr h v R L]
    split
    · rfl
    · split <;> rfl
theorem put_right {p : K × V} {k : K} (h : lt p.1 k = true) (v : V) (R : List (K × V)) : ∀ L : List (K × V), Below' lt L k → putK lt (L ++ p :: R) k v = L ++ p :: putK lt R k v
  | [], _ => by rw [List.nil_append, putK_cons, if_pos h]; rfl
  | q :: L, hb => by
    rw [List.cons_append, putK_cons, if_pos (hb q (by simp)), put_right h v R L (fun x hx => hb x (by simp [hx]))]
    rfl
theorem put_same (hr : Rises lt) {p : K × V} (v : V) (R : List (K × V)) : ∀ L : List (K × V), Below' lt L p.1 → putK lt (L ++ p :: R) p.1 v = L ++ (p.1, v) :: R
  | [], _ => by rw [List.nil_append, putK_cons, if_neg (by rw [hr.irr]; simp), if_pos rfl]; rfl
  | q :: L, hb => by
    rw [List.cons_append, putK_cons, if_pos (hb q (by simp)), put_same hr v R L (fun x hx => hb x (by simp [hx]))]
    rfl
theorem drop_left (hr : Rises lt) {p : K × V} {k : K} (h : lt k p.1 = true) (R : List (K × V)) : ∀ L : List (K × V), dropK lt (L ++ p :: R) k = dropK lt L k ++ p :: R
  | [] => by rw [List.nil_append, dropK_cons, if_neg (by rw [not_lt_of hr h]; simp), if_neg (ne_of_lt hr h)]; rfl
  | q :: L => by
    rw [List.cons_append, dropK_cons, dropK_cons, drop_left hr h R L]
    split
    · rfl
    · split <;> rfl
theorem drop_right {p : K × V} {k : K} (h : lt p.1 k = true) (R : List (K × V)) : ∀ L : List (K × V), Below' lt L k → dropK lt (L ++ p :: R) k = L ++ p :: dropK lt R k
  | [], _ => by rw [List.nil_append, dropK_cons, if_pos h]; rfl
  | q :: L, hb => by
    rw [List.cons_append, dropK_cons, if_pos (hb q (by simp)), drop_right h R L (fun x hx => hb x (by simp [hx]))]
    rfl
theorem drop_same (hr : Rises lt) {p : K × V} (R : List (K × V)) : ∀ L : List (K × V), Below' lt L p.1 → dropK lt (L ++ p :: R) p.1 = L ++ R
  | [], _ => by rw [List.nil_append, dropK_cons, if_neg (by rw [hr.irr]; simp), if_pos rfl]; rfl
  | q :: L, hb => by
    rw [List.cons_append, dropK_cons, if_pos (hb q (by simp)), drop_same hr R L (fun x hx => hb x (by simp [hx]))]
    rfl
theorem drop_first (hr : Rises lt) (p : K × V) (R : List (K × V)) : dropK lt (p :: R) p.1 = R := drop_same hr R [] (fun _ h => by cases h)
/-- What a search finds: in the part l, else what was found ahead. -/
def Fl (lt : K → K → Bool) (l : List (K × V)) (k : K) (f : Option (K × V)) : Option (K × V) := match floorK lt l k with
  | some p => some p
  | none => f
theorem fl_above (hr : Rises lt) {p : K × V} {k : K} (h : lt k p.1 = true) (R : List (K × V)) : ∀ L : List (K × V), floorK lt (L ++ p :: R) k = floorK lt L k
  | [] => by rw [List.nil_append, floorK_cons, if_neg (by rw [not_lt_of hr h]; simp), if_neg (ne_of_lt hr h)]; rfl
  | q :: L => by
    rw [List.cons_append, floorK_cons, floorK_cons, fl_above hr h R L]
theorem fl_below (hr : Rises lt) {p : K × V} {k : K} (h : lt k p.1 = false) (R : List (K × V)) (hu : ∀ q ∈ R, lt p.1 q.1 = true) : ∀ L : List (K × V), Below' lt L p.1 → floorK lt (L ++ p :: R) k = some ((floorK lt R k).getD p)
  | [], _ => by
    rw [List.nil_append, floorK_cons]
    by_cases e : p.1 = k
    · rw [if_neg (by rw [e, hr.irr]; simp), if_pos e]
      cases R with
      | nil => rfl
      | cons q R =>
        have h2 := hu q (by simp)
        rw [e] at h2
        rw [floorK_cons, if_neg (by rw [not_lt_of hr h2]; simp), if_neg (ne_of_lt hr h2)]
        rfl
    · rw [if_pos (hr.tot _ _ (fun e2 => e e2.symm) h)]
  | q :: L, hb => by
    have h1 : lt q.1 k = true := by
      have h2 := hb q (by simp)
      by_cases e : p.1 = k
      · rw [← e]; exact h2
      · exact hr.tr _ _ _ h2 (hr.tot _ _ (fun e2 => e e2.symm) h)
    rw [List.cons_append, floorK_cons, if_pos h1, fl_below hr h R hu L (fun x hx => hb x (by simp [hx]))]
    rfl
theorem get_floor (hr : Rises lt) : ∀ {l : List (K × V)} (_ : Up lt l) (k : K), getK lt l k = match floorK lt l k with
    | some p => if lt p.1 k then none else some p.2
    | none => none
  | [], _, _ => rfl
  | p :: l, hu, k => by
    have ih := get_floor hr (up_cons.1 hu).2 k
    rw [getK_cons, floorK_cons, ih]
    by_cases h : lt p.1 k = true
    · rw [if_pos h, if_pos h]
      cases hf : floorK lt l k with
      | none => simp [h]
      | some q => rfl
    · rw [if_neg h, if_neg h]
      by_cases e : p.1 = k
      · rw [if_pos e, if_pos e]; simp [e, hr.irr]
      · rw [if_neg e, if_neg e]
theorem has_get (l : List (K × V)) (k : K) : hasK lt l k = (getK lt l k).isSome := by
  induction l with
  | nil => rfl
  | cons p l ih =>
    rw [hasK_cons, getK_cons, ih]
    split
    · rfl
    · by_cases e : p.1 = k
      · rw [if_pos e, decide_eq_true e]; rfl
      · rw [if_neg e, decide_eq_false e]; rfl
theorem put_size (l : List (K × V)) (k : K) (v : V) : (putK lt l k v).length = l.length + if hasK lt l k then 0 else 1 := by
  induction l with
  | nil => rfl
  | cons p l ih =>
    rw [putK_cons, hasK_cons]
    by_cases h : lt p.1 k = true
    · rw [if_pos h, if_pos h, List.length_cons, ih, List.length_cons]; omega
    · rw [if_neg h, if_neg h]
      by_cases e : p.1 = k
      · rw [if_pos e, decide_eq_true e]; rfl
      · rw [if_neg e, decide_eq_false e]; rfl
theorem drop_size (l : List (K × V)) (k : K) : (dropK lt l k).length + (if hasK lt l k then 1 else 0) = l.length := by
  induction l with
  | nil => rfl
  | cons p l ih =>
    rw [dropK_cons, hasK_cons]
    by_cases h : lt p.1 k = true
    · rw [if_pos h, if_pos h, List.length_cons, List.length_cons, ← ih]; omega
    · rw [if_neg h, if_neg h]
      by_cases e : p.1 = k
      · rw [if_pos e, decide_eq_true e]; rfl
      · rw [if_neg e, decide_eq_false e]; rfl
end

/-- A tree. -/
inductive Tr (K V : Type) where
  | nil : Tr K V
  | node (l : Tr K V) (k : K) (v : V) (r : Tr K V) : Tr K V
section
variable {K V : Type}
def Tr.flat : Tr K V → List (K × V)
  | .nil => []
  | .node l k v r => l.flat ++ (k, v) :: r.flat
def Tr.cnt : Tr K V → Nat
  | .nil => 0
  | .node l _ _ r => l.cnt + r.cnt + 1
theorem Tr.cnt_flat : ∀ t : Tr K V, t.flat.length = t.cnt
  | .nil => rfl
  | .node l k v r => by
    show (l.flat ++ (k, v) :: r.flat).length = l.cnt + r.cnt + 1
    rw [List.length_append, List.length_cons, l.cnt_flat, r.cnt_flat]
    omega
/-- The tree x lies in memory at the pointer p, its nodes of type t. -/
def TreeAt (t : TypeId) (eK : K → Value) (eV : V → Value) (w : World) : Tr K V → Value → Prop
  | .nil, p => p = .pointer none
  | .node l k v r, p => ∃ g pl pr, p = .pointer (some ⟨g, 0, none⟩) ∧ Box w g t #[eK k, eV v, pl, pr, .int .i64 ((l.cnt + r.cnt + 1 : Nat) : Int)] ∧ TreeAt t eK eV w l pl ∧ TreeAt t eK eV w r pr
theorem TreeAt.turn {t : TypeId} {eK : K → Value} {eV : V → Value} {w w' : World} {S : Nat → Prop} (ht : Turn S w w') (hS : ∀ g cs, Box w g t cs → ¬ S g) : ∀ {x : Tr K V} {p : Value}, TreeAt t eK eV w x p → TreeAt t eK eV w' x p
  | .nil, _, h => h
  | .node _ _ _ _, _, ⟨g, pl, pr, e, hb, hl, hr⟩ => ⟨g, pl, pr, e, hb.turn ht (hS _ _ hb), TreeAt.turn ht hS hl, TreeAt.turn ht hS hr⟩
theorem TreeAt.later {t : TypeId} {eK : K → Value} {eV : V → Value} {w w' : World} {x : Tr K V} {p : Value} (h : TreeAt t eK eV w x p) (ht : Turn (fun _ => False) w w') : TreeAt t eK eV w' x p := h.turn ht (fun _ _ _ f => f)
theorem TreeAt.shape {t : TypeId} {eK : K → Value} {eV : V → Value} {w : World} : ∀ {x : Tr K V} {p : Value}, TreeAt t eK eV w x p → ∃ A, p = .pointer A
  | .nil, _, h => ⟨none, h⟩
  | .node _ _ _ _, _, ⟨g, _, _, e, _⟩ => ⟨some ⟨g, 0, none⟩, e⟩
theorem TreeAt.of_none {t : TypeId} {eK : K → Value} {eV : V → Value} {w : World} {x : Tr K V} (h : TreeAt t eK eV w x (.pointer none)) : x = .nil := by
  cases x with
  | nil => rfl
  | node l k v r => obtain ⟨g, pl, pr, e, _⟩ := h; cases e
end

end Go.Proofs.Ytnapeckpjnbcgaa
