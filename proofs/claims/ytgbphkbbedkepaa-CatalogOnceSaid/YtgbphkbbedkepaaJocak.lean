/-
  Texts laid one behind the other: Ha Gb R5a R5t Hbe Hce Hde Hee.
-/
import Derived.Test.YtgbphkbbedkepaaJocaa
import Derived.Test.YtgbphkbbedkepaaJocab
import Derived.BigQuiet
import Derived.Test.YtgbphkbbedkepaaJocag
import Derived.Test.YtgbphkbbedkepaaJocah
import Derived.Deep.RegionHeld3

/-
  Lists of pairs whose keys rise, plain, in two parts about a key: what is put, dropped, the floor; trees, plain, and in memory.
-/
namespace Go.Proofs.Ytgbphkbbedkepaa
open Go.RowKit
set_option linter.unusedSectionVars false

section
variable {K V : Type} [DecidableEq K] {lt : K → K → Bool}
theorem plc_cons (p : K × V) (l : List (K × V)) (k : K) : plc lt (p :: l) k = if lt p.1 k then plc lt l k + 1 else 0 := rfl
theorem hasK_nil (k : K) : hasK lt ([] : List (K × V)) k = false := rfl
theorem hasK_cons (p : K × V) (l : List (K × V)) (k : K) : hasK lt (p :: l) k = if lt p.1 k then hasK lt l k else decide (p.1 = k) := by
  unfold hasK
  rw [plc_cons]
  by_cases h : lt p.1 k = true
  · simp only [h, if_true, List.getElem?_cons_succ]
  · simp only [h, if_false, List.getElem?_cons_zero, Bool.false_eq_true]
theorem getK_cons (p : K × V) (l : List (K × V)) (k : K) : getK lt (p :: l) k = if lt p.1 k then getK lt l k else if p.1 = k then some p.2 else none := by
  unfold getK
  rw [plc_cons]
  by_cases h : lt p.1 k = true
  · simp only [h, if_true, List.getElem?_cons_succ]
  · simp only [h, if_false, List.getElem?_cons_zero, Bool.false_eq_true]
theorem upK_cons (p : K × V) (l : List (K × V)) (k : K) : upK lt (p :: l) k = if lt p.1 k then upK lt l k + 1 else if p.1 = k then 1 else 0 := by
  unfold upK
  rw [plc_cons, hasK_cons]
  by_cases h : lt p.1 k = true
  · rw [if_pos h, if_pos h, if_pos h]
    split <;> rfl
  · rw [if_neg h, if_neg h, if_neg h]
    by_cases e : p.1 = k
    · rw [if_pos e, decide_eq_true e]; rfl
    · rw [if_neg e, decide_eq_false e]; rfl
theorem putK_nil (k : K) (v : V) : putK lt [] k v = [(k, v)] := rfl
theorem putK_cons (p : K × V) (l : List (K × V)) (k : K) (v : V) : putK lt (p :: l) k v = if lt p.1 k then p :: putK lt l k v else if p.1 = k then (k, v) :: l else (k, v) :: p :: l := by
  unfold putK
  rw [plc_cons, upK_cons]
  by_cases h : lt p.1 k = true
  · rw [if_pos h, if_pos h, if_pos h]; rfl
  · rw [if_neg h, if_neg h, if_neg h]
    by_cases e : p.1 = k
    · rw [if_pos e, if_pos e]; rfl
    · rw [if_neg e, if_neg e]; rfl
theorem dropK_nil (k : K) : dropK lt ([] : List (K × V)) k = [] := rfl
theorem dropK_cons (p : K × V) (l : List (K × V)) (k : K) : dropK lt (p :: l) k = if lt p.1 k then p :: dropK lt l k else if p.1 = k then l else p :: l := by
  unfold dropK
  rw [plc_cons, upK_cons]
  by_cases h : lt p.1 k = true
  · rw [if_pos h, if_pos h, if_pos h]; rfl
  · rw [if_neg h, if_neg h, if_neg h]
    by_cases e : p.1 = k
    · rw [if_pos e, if_pos e]; rfl
    · rw [if_neg e, if_neg e]; rfl
theorem floorK_nil (k : K) : floorK lt ([] : List (K × V)) k = none := rfl
theorem floorK_cons (p : K × V) (l : List (K × V)) (k : K) : floorK lt (p :: l) k = if lt p.1 k then some ((floorK lt l k).getD p) else if p.1 = k then some p else none := by
  unfold floorK
  rw [upK_cons]
  by_cases h : lt p.1 k = true
  · rw [if_pos h, if_pos h, if_neg (by omega), Nat.add_sub_cancel]
    by_cases e : upK lt l k = 0
    · rw [if_pos e, e]; rfl
    · rw [if_neg e]
      have hl := upK_le (lt := lt) l k
      obtain ⟨n, hn⟩ : ∃ n, upK lt l k = n + 1 := ⟨upK lt l k - 1, by omega⟩
      rw [hn, List.getElem?_cons_succ, Nat.add_sub_cancel, List.getElem?_eq_getElem (by omega)]
      rfl
  · rw [if_neg h, if_neg h]
    by_cases e : p.1 = k
    · rw [if_pos e, if_pos e]; rfl
    · rw [if_neg e, if_neg e]; rfl

/-- All keys of l are below k. -/
def Below' (lt : K → K → Bool) (l : List (K × V)) (k : K) : Prop := ∀ p ∈ l, lt p.1 k = true
theorem up_parts {L R : List (K × V)} {p : K × V} (h : Up lt (L ++ p :: R)) : Up lt L ∧ Up lt R ∧ Below' lt L p.1 := by
  obtain ⟨h1, h2, h3⟩ := up_append.1 h
  obtain ⟨_, h5⟩ := up_cons.1 h2
  refine ⟨h1, h5, fun q hq => ?_⟩
  obtain ⟨i, hi, e⟩ := List.mem_iff_getElem.1 hq
  exact h3 i 0 q p (by rw [List.getElem?_eq_getElem hi, e]) rfl
theorem Below'.tr (hr : Rises lt) {l : List (K × V)} {a b : K} (h : Below' lt l a) (hab : lt a b = true) : Below' lt l b := fun p hp => hr.tr _ _ _ (h p hp) hab
theorem not_lt_of (hr : Rises lt) {a b : K} (h : lt a b = true) : lt b a = false := by
  cases h2 : lt b a with
  | false => rfl
  | true => have := hr.tr _ _ _ h h2; rw [hr.irr] at this; cases this
theorem ne_of_lt (hr : Rises lt) {a b : K} (h : lt a b = true) : b ≠ a := fun e => by rw [e, hr.irr] at h; cases h
theorem put_left (hr : Rises lt) {p : K × V} {k : K} (h : lt k p.1 = true) (v : V) (R : List (K × V)) : ∀ L : List (K × V), putK lt (L ++ p :: R) k v = putK lt L k v ++ p :: R
  | [] => by rw [List.nil_append, putK_cons, if_neg (by rw [not_lt_of hr h]; simp), if_neg (ne_of_lt hr h)]; rfl
  | q :: L => by
    rw [List.cons_append, putK_cons, putK_cons, put_left hr h v R L]
    split
    · rfl
    · split <;> rfl
theorem put_right {p : K × V} {k : K} (h : lt p.1 k = true) (v : V) (R : List (K × V)) : ∀ L : List (K × V), Below' lt L k → putK lt (L ++ p :: R) k v = L ++ p :: putK lt R k v
  | [], _ => by rw [List.nil_append, putK_cons, if_pos h]; rfl
  | q :: L, hb => by
    rw [List.cons_append, putK_cons, if_pos (hb q (by simp)), put_right h v R L (fun x hx => hb x (by simp [hx]))]
    rfl
theorem put_same (hr : Rises lt) {p : K × V} (v : V) (R : List (K × V)) : ∀ L : List (K × V), Below' lt L p.1 → putK lt (L ++ p :: R) p.1 v = L ++ (p.1, v) :: R
  | [], _ => by rw [List.nil_append, putK_cons, if_neg (by rw [hr.irr]; simp), if_pos rfl]; rfl
  | q :: L, hb => by
    rw [List.cons_append, putK_cons, if_pos (hb q (by simp)), put_same hr v R L (fun x hx => hb x (by simp [hx]))]
    rfl
theorem drop_left (hr : Rises lt) {p : K × V} {k : K} (h : lt k p.1 = true) (R : List (K × V)) : ∀ L : List (K × V), dropK lt (L ++ p :: R) k = dropK lt L k ++ p :: R
  | [] => by rw [List.nil_append, dropK_cons, if_neg (by rw [not_lt_of hr h]; simp), if_neg (ne_of_lt hr h)]; rfl
  | q :: L => by
    rw [List.cons_append, dropK_cons, dropK_cons, drop_left hr h R L]
    split
    · rfl
    · split <;> rfl
theorem drop_right {p : K × V} {k : K} (h : lt p.1 k = true) (R : List (K × V)) : ∀ L : List (K × V), Below' lt L k → dropK lt (L ++ p :: R) k = L ++ p :: dropK lt R k
  | [], _ => by rw [List.nil_append, dropK_cons, if_pos h]; rfl
  | q :: L, hb => by
    rw [List.cons_append, dropK_cons, if_pos (hb q (by simp)), drop_right h R L (fun x hx => hb x (by simp [hx]))]
    rfl
theorem drop_same (hr : Rises lt) {p : K × V} (R : List (K × V)) : ∀ L : List (K × V), Below' lt L p.1 → dropK lt (L ++ p :: R) p.1 = L ++ R
  | [], _ => by rw [List.nil_append, dropK_cons, if_neg (by rw [hr.irr]; simp), if_pos rfl]; rfl
  | q :: L, hb => by
    rw [List.cons_append, dropK_cons, if_pos (hb q (by simp)), drop_same hr R L (fun x hx => hb x (by simp [hx]))]
    rfl
theorem drop_first (hr : Rises lt) (p : K × V) (R : List (K × V)) : dropK lt (p :: R) p.1 = R := drop_same hr R [] (fun _ h => by cases h)
/-- What a search finds: in the part l, else what was found ahead. -/
def Fl (lt : K → K → Bool) (l : List (K × V)) (k : K) (f : Option (K × V)) : Option (K × V) := match floorK lt l k with
  | some p => some p
  | none => f
theorem fl_above (hr : Rises lt) {p : K × V} {k : K} (h : lt k p.1 = true) (R : List (K × V)) : ∀ L : List (K × V), floorK lt (L ++ p :: R) k = floorK lt L k
  | [] => by rw [List.nil_append, floorK_cons, if_neg (by rw [not_lt_of hr h]; simp), if_neg (ne_of_lt hr h)]; rfl
  | q :: L => by
    rw [List.cons_append, floorK_cons, floorK_cons, fl_above hr h R L]
theorem fl_below (hr : Rises lt) {p : K × V} {k : K} (h : lt k p.1 = false) (R : List (K × V)) (hu : ∀ q ∈ R, lt p.1 q.1 = true) : ∀ L : List (K × V), Below' lt L p.1 → floorK lt (L ++ p :: R) k = some ((floorK lt R k).getD p)
  | [], _ => by
    rw [List.nil_append, floorK_cons]
    by_cases e : p.1 = k
    · rw [if_neg (by rw [e, hr.irr]; simp), if_pos e]
      cases R with
      | nil => rfl
      | cons q R =>
        have h2 := hu q (by simp)
        rw [e] at h2
        rw [floorK_cons, if_neg (by rw [not_lt_of hr h2]; simp), if_neg (ne_of_lt hr h2)]
        rfl
    · rw [if_pos (hr.tot _ _ (fun e2 => e e2.symm) h)]
  | q :: L, hb => by
    have h1 : lt q.1 k = true := by
      have h2 := hb q (by simp)
      by_cases e : p.1 = k
      · rw [← e]; exact h2
      · exact hr.tr _ _ _ h2 (hr.tot _ _ (fun e2 => e e2.symm) h)
    rw [List.cons_append, floorK_cons, if_pos h1, fl_below hr h R hu L (fun x hx => hb x (by simp [hx]))]
    rfl
theorem get_floor (hr : Rises lt) : ∀ {l : List (K × V)} (_ : Up lt l) (k : K), getK lt l k = match floorK lt l k with
    | some p => if lt p.1 k then none else some p.2
    | none => none
  | [], _, _ => rfl
  | p :: l, hu, k => by
    have ih := get_floor hr (up_cons.1 hu).2 k
    rw [getK_cons, floorK_cons, ih]
    by_cases h : lt p.1 k = true
    · rw [if_pos h, if_pos h]
      cases hf : floorK lt l k with
      | none => simp [h]
      | some q => rfl
    · rw [if_neg h, if_neg h]
      by_cases e : p.1 = k
      · rw [if_pos e, if_pos e]; simp [e, hr.irr]
      · rw [if_neg e, if_neg e]
theorem has_get (l : List (K × V)) (k : K) : hasK lt l k = (getK lt l k).isSome := by
  induction l with
  | nil => rfl
  | cons p l ih =>
    rw [hasK_cons, getK_cons, ih]
    split
    · rfl
    · by_cases e : p.1 = k
      · rw [if_pos e, decide_eq_true e]; rfl
      · rw [if_neg e, decide_eq_false e]; rfl
theorem put_size (l : List (K × V)) (k : K) (v : V) : (putK lt l k v).length = l.length + if hasK lt l k then 0 else 1 := by
  induction l with
  | nil => rfl
  | cons p l ih =>
    rw [putK_cons, hasK_cons]
    by_cases h : lt p.1 k = true
    · rw [if_pos h, if_pos h, List.length_cons, ih, List.length_cons]; omega
    · rw [if_neg h, if_neg h]
      by_cases e : p.1 = k
      · rw [if_pos e, decide_eq_true e]; rfl
      · rw [if_neg e, decide_eq_false e]; rfl
theorem drop_size (l : List (K × V)) (k : K) : (dropK lt l k).length + (if hasK lt l k then 1 else 0) = l.length := by
  induction l with
  | nil => rfl
  | cons p l ih =>
    rw [dropK_cons, hasK_cons]
    by_cases h : lt p.1 k = true
    · rw [if_pos h, if_pos h, List.length_cons, List.length_cons, ← ih]; omega
    · rw [if_neg h, if_neg h]
      by_cases e : p.1 = k
      · rw [if_pos e, decide_eq_true e]; rfl
      · rw [if_neg e, decide_eq_false e]; rfl
end

/-- A tree. -/
inductive Tr (K V : Type) where
  | nil : Tr K V
  | node (l : Tr K V) (k : K) (v : V) (r : Tr K V) : Tr K V
section
variable {K V : Type}
def Tr.flat : Tr K V → List (K × V)
  | .nil => []
  | .node l k v r => l.flat ++ (k, v) :: r.flat
def Tr.cnt : Tr K V → Nat
  | .nil => 0
  | .node l _ _ r => l.cnt + r.cnt + 1
theorem Tr.cnt_flat : ∀ t : Tr K V, t.flat.length = t.cnt
  | .nil => rfl
  | .node l k v r => by
    show (l.flat ++ (k, v) :: r.flat).length = l.cnt + r.cnt + 1
    rw [List.length_append, List.length_cons, l.cnt_flat, r.cnt_flat]
    omega
/-- The tree x lies in memory at the pointer p, its nodes of type t. -/
def TreeAt (t : TypeId) (eK : K → Value) (eV : V → Value) (w : World) : Tr K V → Value → Prop
  | .nil, p => p = .pointer none
  | .node l k v r, p => ∃ g pl pr, p = .pointer (some ⟨g, 0, none⟩) ∧ Box w g t #[eK k, eV v, pl, pr, .int .i64 ((l.cnt + r.cnt + 1 : Nat) : Int)] ∧ TreeAt t eK eV w l pl ∧ TreeAt t eK eV w r pr
theorem TreeAt.turn {t : TypeId} {eK : K → Value} {eV : V → Value} {w w' : World} {S : Nat → Prop} (ht : Turn S w w') (hS : ∀ g cs, Box w g t cs → ¬ S g) : ∀ {x : Tr K V} {p : Value}, TreeAt t eK eV w x p → TreeAt t eK eV w' x p
  | .nil, _, h => h
  | .node _ _ _ _, _, ⟨g, pl, pr, e, hb, hl, hr⟩ => ⟨g, pl, pr, e, hb.turn ht (hS _ _ hb), TreeAt.turn ht hS hl, TreeAt.turn ht hS hr⟩
theorem TreeAt.later {t : TypeId} {eK : K → Value} {eV : V → Value} {w w' : World} {x : Tr K V} {p : Value} (h : TreeAt t eK eV w x p) (ht : Turn (fun _ => False) w w') : TreeAt t eK eV w' x p := h.turn ht (fun _ _ _ f => f)
theorem TreeAt.shape {t : TypeId} {eK : K → Value} {eV : V → Value} {w : World} : ∀ {x : Tr K V} {p : Value}, TreeAt t eK eV w x p → ∃ A, p = .pointer A
  | .nil, _, h => ⟨none, h⟩
  | .node _ _ _ _, _, ⟨g, _, _, e, _⟩ => ⟨some ⟨g, 0, none⟩, e⟩
theorem TreeAt.of_none {t : TypeId} {eK : K → Value} {eV : V → Value} {w : World} {x : Tr K V} (h : TreeAt t eK eV w x (.pointer none)) : x = .nil := by
  cases x with
  | nil => rfl
  | node l k v r => obtain ⟨g, pl, pr, e, _⟩ := h; cases e
end

end Go.Proofs.Ytgbphkbbedkepaa

/-
  The document's map of numbers and texts, in memory.
-/
namespace Go.Proofs.Ytgbphkbbedkepaa
open Go.RowKit

/-- A number and a text, as a pair's cells. -/
def EP : El (Int × List UInt8) where
  sz := 2
  enc p := [.int .i64 p.1, .string ⟨p.2.toArray⟩]
  len _ := rfl
  one p u hu := by
    rcases List.mem_cons.1 hu with rfl | hu
    · rfl
    · rw [List.mem_singleton.1 hu]; rfl
def ltI (a b : Int) : Bool := decide (a < b)
theorem rises_ltI : Rises ltI := rises_int
theorem has_at {L : List (Int × List UInt8)} {k : Int} {i : Nat} {p : Int × List UInt8} (h : plc ltI L k = i) (hp : L[i]? = some p) : hasK ltI L k = decide (p.1 = k) := by
  unfold hasK
  rw [h, hp]
theorem has_not {L : List (Int × List UInt8)} {k : Int} {i : Nat} (h : plc ltI L k = i) (hi : L.length ≤ i) : hasK ltI L k = false := by
  unfold hasK
  rw [h, List.getElem?_eq_none hi]

end Go.Proofs.Ytgbphkbbedkepaa

/-
  Stage 20, plain: entries by their first hours; what a map of them answers, and what a catalog does.
-/
namespace Go.Proofs.Ytgbphkbbedkepaa

set_option maxRecDepth 100000

/-- The entries, each by its first hour. -/
def kv20 (l : List N20) : List (Int × N20) := l.map fun e => ((span19 e.p).1, e)
theorem kv_append20 (a b : List N20) : kv20 (a ++ b) = kv20 a ++ kv20 b := List.map_append
theorem kv_cons20 (e : N20) (l : List N20) : kv20 (e :: l) = ((span19 e.p).1, e) :: kv20 l := rfl
theorem kv_len20 (l : List N20) : (kv20 l).length = l.length := List.length_map ..
theorem kv_mem20 {l : List N20} {q : Int × N20} (h : q ∈ kv20 l) : q.2 ∈ l ∧ q.1 = (span19 q.2.p).1 := by
  obtain ⟨e, he, rfl⟩ := List.mem_map.1 h
  exact ⟨he, rfl⟩
theorem ok_tail20 {e : N20} {l : List N20} (h : Ok20 (e :: l)) : Ok20 l := h.sub (List.sublist_cons_self ..)
theorem ok_head20 {e : N20} {l : List N20} (h : Ok20 (e :: l)) : ∀ x ∈ l, (span19 e.p).2 ≤ (span19 x.p).1 := (List.pairwise_cons.1 h.up).1
theorem up_kv20 {l : List N20} (h : Ok20 l) : Up ltI (kv20 l) := by
  induction l with
  | nil => exact up_nil
  | cons e r ih =>
    rw [kv_cons20, up_cons]
    refine ⟨fun i q hq => ?_, ih (ok_tail20 h)⟩
    obtain ⟨h1, h2⟩ := kv_mem20 (List.mem_of_getElem? hq)
    have h3 := ok_head20 h _ h1
    have h4 := ok_span20 h (List.mem_cons_self ..)
    show ltI (span19 e.p).1 q.1 = true
    unfold ltI
    rw [decide_eq_true_iff, h2]
    omega
theorem ltI_iff20 {a b : Int} : ltI a b = true ↔ a < b := by unfold ltI; exact decide_eq_true_iff
/-- The last one that begins no later than k. -/
def last20 (l : List N20) (k : Int) : Option N20 := (floorK ltI (kv20 l) k).map (·.2)
theorem floor_split20 : ∀ {l : List N20}, Ok20 l → ∀ k, (floorK ltI (kv20 l) k = none ∧ ∀ x ∈ l, k < (span19 x.p).1) ∨
    ∃ a e b, l = a ++ e :: b ∧ floorK ltI (kv20 l) k = some ((span19 e.p).1, e) ∧ (span19 e.p).1 ≤ k ∧ (∀ x ∈ b, k < (span19 x.p).1) ∧ ∀ x ∈ a, (span19 x.p).2 ≤ (span19 e.p).1
  | [], _, k => .inl ⟨rfl, fun _ h => nomatch h⟩
  | e :: r, h, k => by
    have hh := ok_head20 h
    have hs := ok_span20 h (List.mem_cons_self ..)
    rw [kv_cons20, floorK_cons]
    dsimp only
    by_cases h1 : (span19 e.p).1 < k
    · rw [if_pos (ltI_iff20.2 h1)]
      rcases floor_split20 (ok_tail20 h) k with ⟨e1, e2⟩ | ⟨a, y, b, hl, e1, e2, e3, e4⟩
      · rw [e1]
        exact .inr ⟨[], e, r, rfl, rfl, Int.le_of_lt h1, e2, fun _ h => nomatch h⟩
      · rw [e1]
        refine .inr ⟨e :: a, y, b, by rw [hl, List.cons_append], rfl, e2, e3, fun x hx => ?_⟩
        rcases List.mem_cons.1 hx with rfl | hx
        · exact hh y (by rw [hl]; simp)
        · exact e4 x hx
    · rw [if_neg (fun c => h1 (ltI_iff20.1 c))]
      by_cases h2 : (span19 e.p).1 = k
      · rw [if_pos h2]
        refine .inr ⟨[], e, r, rfl, rfl, by omega, fun x hx => ?_, fun _ h => nomatch h⟩
        have := hh x hx
        omega
      · rw [if_neg h2]
        refine .inl ⟨rfl, fun x hx => ?_⟩
        rcases List.mem_cons.1 hx with rfl | hx
        · omega
        · have := hh x hx; omega
theorem has_iff20 {p : T19} {h : Int} : has19 p h = true ↔ (span19 p).1 ≤ h ∧ h < (span19 p).2 := by
  unfold has19
  rw [Bool.and_eq_true, decide_eq_true_iff, decide_eq_true_iff]
theorem find_skip20 {P : N20 → Bool} {a : List N20} {e : N20} {b : List N20} (ha : ∀ x ∈ a, P x = false) (hb : ∀ x ∈ b, P x = false) : (a ++ e :: b).find? P = if P e then some e else none := by
  rw [List.find?_append, List.find?_eq_none.2 (fun x hx => by rw [ha x hx]; decide)]
  by_cases h : P e = true
  · rw [List.find?_cons_of_pos h, if_pos h]; rfl
  · rw [List.find?_cons_of_neg h, if_neg h, List.find?_eq_none.2 (fun x hx => by rw [hb x hx]; decide)]; rfl
theorem at_floor20 {l : List N20} (h : Ok20 l) (k : Int) :
    (floorK ltI (kv20 l) k = none ∧ at20 l k = (zero20, false)) ∨ ∃ s e, floorK ltI (kv20 l) k = some (s, e) ∧ at20 l k = if has19 e.p k then (e, true) else (zero20, false) := by
  rcases floor_split20 h k with ⟨e1, e2⟩ | ⟨a, e, b, hl, e1, e2, e3, e4⟩
  · refine .inl ⟨e1, ?_⟩
    unfold at20
    rw [List.find?_eq_none.2 (fun x hx c => by have := (has_iff20.1 c).1; have := e2 x hx; omega)]
  · refine .inr ⟨_, e, e1, ?_⟩
    unfold at20
    have hE : l.find? (fun e => has19 e.p k) = if has19 e.p k then some e else none := by
      conv => lhs; rw [hl]
      refine find_skip20 (P := fun e => has19 e.p k) (fun x hx => ?_) (fun x hx => ?_)
      · cases c : has19 x.p k with
        | false => rfl
        | true => have := (has_iff20.1 c).2; have := e4 x hx; omega
      · cases c : has19 x.p k with
        | false => rfl
        | true => have := (has_iff20.1 c).1; have := e3 x hx; omega
    rw [hE]
    cases has19 e.p k <;> rfl
theorem get_key20 : ∀ {l : List N20}, Ok20 l → ∀ p, get20 l p = match getK ltI (kv20 l) (span19 p).1 with
    | some e => if eqT e.p p then (e, true) else (zero20, false)
    | none => (zero20, false)
  | [], _, p => rfl
  | e :: r, h, p => by
    have hh := ok_head20 h
    have hs := ok_span20 h (List.mem_cons_self ..)
    have ih := get_key20 (ok_tail20 h) p
    rw [kv_cons20, getK_cons]
    dsimp only
    by_cases h1 : (span19 e.p).1 < (span19 p).1
    · rw [if_pos (ltI_iff20.2 h1), ← ih]
      unfold get20
      rw [List.find?_cons_of_neg (fun c => by have := eqT_iff.1 c; rw [this] at h1; omega)]
    · rw [if_neg (fun c => h1 (ltI_iff20.1 c))]
      have hr : r.find? (fun x => eqT x.p p) = none := List.find?_eq_none.2 (fun x hx c => by have := hh x hx; rw [eqT_iff.1 c] at this; omega)
      by_cases h2 : (span19 e.p).1 = (span19 p).1
      · rw [if_pos h2]
        unfold get20
        by_cases c : eqT e.p p = true
        · rw [List.find?_cons_of_pos (p := fun e : N20 => eqT e.p p) c]
          dsimp only
          rw [if_pos c]
        · rw [List.find?_cons_of_neg (p := fun e : N20 => eqT e.p p) c, hr]
          dsimp only
          rw [if_neg c]
      · rw [if_neg h2]
        unfold get20
        rw [List.find?_cons_of_neg (fun c => by have := eqT_iff.1 c; rw [this] at h2; exact h2 rfl), hr]
theorem get_any20 (l : List N20) (p : T19) : (get20 l p).2 = (drop20 l p).2 := by
  unfold get20 drop20
  dsimp only
  cases hf : l.find? (fun e => eqT e.p p) with
  | none => exact (List.any_eq_false.2 (fun x hx => by simpa using List.find?_eq_none.1 hf x hx)).symm
  | some e => exact (List.any_eq_true.2 ⟨e, List.mem_of_find?_eq_some hf, by simpa using List.find?_some hf⟩).symm
theorem drop_kv20 : ∀ {l : List N20}, Ok20 l → ∀ {p}, (drop20 l p).2 = true → dropK ltI (kv20 l) (span19 p).1 = kv20 (drop20 l p).1
  | [], _, p, h => by cases h
  | e :: r, h, p, hd => by
    have hh := ok_head20 h
    have hs := ok_span20 h (List.mem_cons_self ..)
    unfold drop20 at hd ⊢
    dsimp only at hd ⊢
    rw [List.any_cons] at hd
    rw [kv_cons20, dropK_cons]
    dsimp only
    by_cases c : eqT e.p p = true
    · rw [eqT_iff.1 c, if_neg (fun c => by have := ltI_iff20.1 c; omega), if_pos rfl, List.filter_cons_of_neg (by rw [c]; decide)]
      rw [List.filter_eq_self.2 (fun x hx => by
        rw [Bool.not_eq_true']
        cases c2 : eqT x.p p with
        | false => rfl
        | true => have := hh x hx; rw [eqT_iff.1 c2, ← eqT_iff.1 c] at this; omega)]
    · have c' : eqT e.p p = false := by simpa using c
      rw [c', Bool.false_or] at hd
      obtain ⟨x, hx, hxp⟩ := List.any_eq_true.1 hd
      have h3 := hh x hx
      rw [eqT_iff.1 hxp] at h3
      have ih := drop_kv20 (ok_tail20 h) (p := p) (by unfold drop20; exact hd)
      rw [if_pos (ltI_iff20.2 (by omega)), List.filter_cons_of_pos (by simp [c']), ih]
      rfl
theorem put_front20 {L R : List (Int × N20)} {k : Int} {v : N20} (hl : ∀ q ∈ L, q.1 < k) (hr : ∀ q ∈ R, k < q.1) : putK ltI (L ++ R) k v = L ++ (k, v) :: R := by
  induction L with
  | nil =>
    rw [List.nil_append, List.nil_append]
    cases R with
    | nil => rfl
    | cons q R =>
      have := hr q (List.mem_cons_self ..)
      rw [putK_cons, if_neg (fun c => by have := ltI_iff20.1 c; omega), if_neg (by omega)]
  | cons q L ih =>
    rw [List.cons_append, putK_cons, if_pos (ltI_iff20.2 (hl q (List.mem_cons_self ..))), ih (fun x hx => hl x (List.mem_cons_of_mem _ hx))]
    rfl
theorem put_kv20 {l : List N20} (h : Ok20 l) {e : N20} (he : right20 e = true) (hm : (l.any fun x => meets19 x.p e.p) = false) : putK ltI (kv20 l) (span19 e.p).1 e = kv20 (ins20 l e) := by
  obtain ⟨a, b, hl, ha, hb, hk⟩ := parts20 h (right_part20 he) hm
  have hsp := span_start19 (right_part20 he)
  unfold ins20
  have e1 : l.take (pos20 e.p 0 0 l) = a := by rw [hk, hl]; exact List.take_left
  have e2 : l.drop (pos20 e.p 0 0 l) = b := by rw [hk, hl]; exact List.drop_left
  rw [e1, e2, kv_append20, kv_cons20, hl, kv_append20]
  refine put_front20 (fun q hq => ?_) (fun q hq => ?_)
  · obtain ⟨h1, h2⟩ := kv_mem20 hq
    have h3 := ha _ h1
    have h4 := ok_span20 h (e := q.2) (by rw [hl]; exact List.mem_append_left _ h1)
    omega
  · obtain ⟨h1, h2⟩ := kv_mem20 hq
    have h3 := hb _ h1
    omega
theorem meets_floor20 {l : List N20} (h : Ok20 l) {p : T19} (hp : right19 p = true) :
    (floorK ltI (kv20 l) ((span19 p).2 - 1) = none ∧ (l.any fun x => meets19 x.p p) = false) ∨ ∃ s e, floorK ltI (kv20 l) ((span19 p).2 - 1) = some (s, e) ∧ (l.any fun x => meets19 x.p p) = meets19 e.p p := by
  have hsp := span_start19 hp
  have key : ∀ x ∈ l, meets19 x.p p = true ↔ (span19 x.p).1 < (span19 p).2 ∧ (span19 p).1 < (span19 x.p).2 := fun x hx => by
    unfold meets19
    rw [hp, right_part20 (h.right x hx), Bool.true_and, Bool.true_and, Bool.and_eq_true, decide_eq_true_iff, decide_eq_true_iff]
  rcases floor_split20 h ((span19 p).2 - 1) with ⟨e1, e2⟩ | ⟨a, e, b, hl, e1, e2, e3, e4⟩
  · refine .inl ⟨e1, List.any_eq_false.2 (fun x hx c => ?_)⟩
    have := e2 x hx
    have := ((key x hx).1 c).1
    omega
  · refine .inr ⟨_, e, e1, ?_⟩
    have hel : e ∈ l := by rw [hl]; simp
    have hes := ok_span20 h hel
    rw [Bool.eq_iff_iff, List.any_eq_true]
    constructor
    · rintro ⟨x, hx, hm⟩
      have h1 := (key x hx).1 hm
      rw [hl] at hx
      rcases List.mem_append.1 hx with hx | hx
      · have h2 := e4 x hx
        exact (key e hel).2 ⟨by omega, by omega⟩
      · rcases List.mem_cons.1 hx with rfl | hx
        · exact hm
        · have h2 := e3 x hx
          omega
    · intro hm
      exact ⟨e, hel, hm⟩
/-- What of a catalog is looked at, for the hours from lo on. -/
def from20 (l : List N20) (lo : Int) : Int := match floorK ltI (kv20 l) lo with
  | some q => q.1
  | none => 0
/-- Is an entry among those asked for? -/
def asked20 (lo hi : Int) (e : N20) : Bool := decide (lo < (span19 e.p).2) && decide ((span19 e.p).1 < hi)
theorem over_range20 {l : List N20} (h : Ok20 l) {lo hi : Int} (hlh : lo < hi) : ∃ m, rangeK ltI (kv20 l) (from20 l lo) 9223372036854775807 = kv20 m ∧ Ok20 m ∧ m.length ≤ l.length ∧ m.filter (asked20 lo hi) = over20 l lo hi := by
  have key : ∀ m : List N20, (∀ x ∈ m, x ∈ l) → m.filter (asked20 lo hi) = m.filter fun e => decide (max (span19 e.p).1 lo < min (span19 e.p).2 hi) := fun m hm => by
    refine List.filter_congr fun x hx => ?_
    have hs := ok_span20 h (hm x hx)
    unfold asked20
    rw [Bool.eq_iff_iff, Bool.and_eq_true, decide_eq_true_iff, decide_eq_true_iff, decide_eq_true_iff]
    omega
  have hall : ∀ (m : List N20) (k : Int), (∀ x ∈ m, x ∈ l) → (∀ x ∈ m, k ≤ (span19 x.p).1) → rangeK ltI (kv20 m) k 9223372036854775807 = kv20 m := fun m k hm hk => by
    unfold rangeK
    rw [List.filter_eq_self]
    intro q hq
    obtain ⟨h1, h2⟩ := kv_mem20 hq
    have h3 := hk _ h1
    have h4 := ok_span20 h (hm _ h1)
    rw [Bool.and_eq_true, Bool.not_eq_true']
    unfold ltI
    rw [decide_eq_false_iff_not, decide_eq_true_iff]
    omega
  unfold from20
  rcases floor_split20 h lo with ⟨e1, e2⟩ | ⟨a, e, b, hl, e1, e2, e3, e4⟩
  · rw [e1]
    exact ⟨l, hall l 0 (fun x hx => hx) (fun x hx => (ok_span20 h hx).1), h, Nat.le_refl _, key l (fun x hx => hx)⟩
  · rw [e1]
    dsimp only
    have hsub : (e :: b).Sublist l := by rw [hl]; exact List.sublist_append_right _ _
    have hb : ∀ x ∈ e :: b, x ∈ l := fun x hx => hsub.subset hx
    refine ⟨e :: b, ?_, h.sub hsub, hsub.length_le, ?_⟩
    · have h1 : rangeK ltI (kv20 a) (span19 e.p).1 9223372036854775807 = [] := by
        unfold rangeK
        rw [List.filter_eq_nil_iff]
        intro q hq c
        obtain ⟨h1, h2⟩ := kv_mem20 hq
        have h3 := e4 _ h1
        have h4 := ok_span20 h (e := q.2) (by rw [hl]; exact List.mem_append_left _ h1)
        rw [Bool.and_eq_true, Bool.not_eq_true'] at c
        have h5 := c.1
        unfold ltI at h5
        rw [decide_eq_false_iff_not] at h5
        omega
      have h2 := hall (e :: b) (span19 e.p).1 hb (fun x hx => by
        rcases List.mem_cons.1 hx with rfl | hx
        · exact Int.le_refl _
        · have := e3 x hx; omega)
      rw [hl, kv_append20]
      unfold rangeK at h1 h2 ⊢
      rw [List.filter_append, h1, h2, List.nil_append]
    · rw [key _ hb]
      unfold over20
      rw [hl, List.filter_append]
      have h1 : a.filter (fun e => decide (max (span19 e.p).1 lo < min (span19 e.p).2 hi)) = [] := by
        rw [List.filter_eq_nil_iff]
        intro x hx c
        have h3 := e4 x hx
        rw [decide_eq_true_iff] at c
        omega
      rw [h1, List.nil_append]
/-- Behind one that begins too late, none is asked for. -/
theorem asked_end20 {pre : List N20} {y : N20} {rest : List N20} {lo hi : Int} (h : Ok20 (pre ++ y :: rest)) (hy : hi ≤ (span19 y.p).1) : (pre ++ y :: rest).filter (asked20 lo hi) = pre.filter (asked20 lo hi) := by
  have h1 : Ok20 (y :: rest) := h.sub (List.sublist_append_right _ _)
  rw [List.filter_append]
  have h2 : (y :: rest).filter (asked20 lo hi) = [] := by
    rw [List.filter_eq_nil_iff]
    intro x hx c
    unfold asked20 at c
    rw [Bool.and_eq_true, decide_eq_true_iff, decide_eq_true_iff] at c
    rcases List.mem_cons.1 hx with rfl | hx
    · omega
    · have := ok_head20 h1 x hx
      have := ok_span20 h1 (List.mem_cons_self ..)
      omega
  rw [h2, List.append_nil]
theorem asked_in20 {lo hi : Int} {e : N20} (h1 : lo < (span19 e.p).2) (h2 : (span19 e.p).1 < hi) : asked20 lo hi e = true := by
  unfold asked20
  rw [decide_eq_true h1, decide_eq_true h2]; rfl
theorem asked_out20 {lo hi : Int} {e : N20} (h1 : (span19 e.p).2 ≤ lo) : asked20 lo hi e = false := by
  unfold asked20
  rw [decide_eq_false (by omega)]; rfl
theorem filter_put20 {P : N20 → Bool} (pre : List N20) (y : N20) : (pre ++ [y]).filter P = pre.filter P ++ if P y then [y] else [] := by
  rw [List.filter_append]
  cases h : P y <;> simp [h]
/-- All numbers, rising: what sorting makes of them. -/
theorem segs_sort20 (l : List N20) : (l.map (·.seg)).mergeSort (fun x y => decide (x ≤ y)) = segs20 l := by
  have ins_perm : ∀ (o : List Int) (s : Int), (insS20 o s).Perm (s :: o) := fun o s => by
    unfold insS20
    refine List.perm_middle.trans ?_
    rw [List.takeWhile_append_dropWhile]
  have ins_up : ∀ (o : List Int) (s : Int), (o.Pairwise fun x y => x ≤ y) → (insS20 o s).Pairwise fun x y => x ≤ y := fun o s ho => by
    induction o with
    | nil => exact List.pairwise_singleton _ _
    | cons x r ih =>
      obtain ⟨h1, h2⟩ := List.pairwise_cons.1 ho
      unfold insS20
      by_cases c : x < s
      · rw [List.takeWhile_cons_of_pos (by simpa using c), List.dropWhile_cons_of_pos (by simpa using c), List.cons_append]
        have ih2 := ih h2
        refine List.pairwise_cons.2 ⟨fun y hy => ?_, ih2⟩
        have := (ins_perm r s).mem_iff.1 hy
        rcases List.mem_cons.1 this with rfl | hy
        · omega
        · exact h1 y hy
      · rw [List.takeWhile_cons_of_neg (by simpa using c), List.dropWhile_cons_of_neg (by simpa using c), List.nil_append]
        refine List.pairwise_cons.2 ⟨fun y hy => ?_, ho⟩
        rcases List.mem_cons.1 hy with rfl | hy
        · omega
        · have := h1 y hy; omega
  have key : ∀ (m : List N20) (acc : List Int), (acc.Pairwise fun x y => x ≤ y) → ((m.foldl (fun o e => insS20 o e.seg) acc).Pairwise fun x y => x ≤ y) ∧ (m.foldl (fun o e => insS20 o e.seg) acc).Perm (m.map (·.seg) ++ acc) := by
    intro m
    induction m with
    | nil => intro acc h; exact ⟨h, List.Perm.refl _⟩
    | cons e m ih =>
      intro acc h
      obtain ⟨h1, h2⟩ := ih (insS20 acc e.seg) (ins_up _ _ h)
      refine ⟨h1, h2.trans ?_⟩
      rw [List.map_cons, List.cons_append]
      exact (List.Perm.append_left _ (ins_perm acc e.seg)).trans List.perm_middle
  obtain ⟨h1, h2⟩ := key l [] List.Pairwise.nil
  rw [List.append_nil] at h2
  refine List.Perm.eq_of_pairwise (le := fun x y => decide (x ≤ y) = true) ?_ ?_ ?_ ((List.mergeSort_perm _ _).trans h2.symm)
  · intro a b _ _ h1 h2
    simp only [decide_eq_true_iff] at h1 h2
    omega
  · refine List.pairwise_mergeSort ?_ ?_ _
    · intro a b c h1 h2
      simp only [decide_eq_true_iff] at *
      omega
    · intro a b
      simp only [Bool.or_eq_true, decide_eq_true_iff]
      omega
  · exact h1.imp fun h => decide_eq_true h
theorem gone_cons20 (o : List N20) (p : T19) (r : List T19) : gone20 o (p :: r) = if (drop20 o p).2 = true then gone20 (drop20 o p).1 r else none := rfl
theorem come_cons20 (o : List N20) (e : N20) (r : List N20) : come20 o (e :: r) = if (put20 o e).2 ≠ 0 then ([], (put20 o e).2) else come20 (put20 o e).1 r := rfl

end Go.Proofs.Ytgbphkbbedkepaa

/-
  Stage 20: trees whose values are entries (six cells), in memory.
-/
namespace Go.Proofs.Ytgbphkbbedkepaa.ome
open Go.RowKit

/-- The tree x lies at the pointer p. -/
def Nd (w : World) : Tr Int N20 → Value → Prop
  | .nil, p => p = .pointer none
  | .node l k v r, p => ∃ g pl pr, p = .pointer (some ⟨g, 0, none⟩) ∧ Box w g 89 #[(.int .i64 k), .int .i64 v.p.t, .int .i64 v.p.i, .int .i64 v.seg, .int .i64 v.mark, .int .i64 v.rows, .bool v.cold, pl, pr, .int .i64 ((l.cnt + r.cnt + 1 : Nat) : Int)] ∧ Nd w l pl ∧ Nd w r pr
theorem Nd.turn {w w' : World} {S : Nat → Prop} (ht : Turn S w w') (hS : ∀ g cs, Box w g 89 cs → ¬ S g) : ∀ {x : Tr Int N20} {p : Value}, Nd w x p → Nd w' x p
  | .nil, _, h => h
  | .node _ _ _ _, _, ⟨g, pl, pr, e, hb, hl, hr⟩ => ⟨g, pl, pr, e, hb.turn ht (hS _ _ hb), Nd.turn ht hS hl, Nd.turn ht hS hr⟩
theorem Nd.later {w w' : World} {x : Tr Int N20} {p : Value} (h : Nd w x p) (ht : Turn (fun _ => False) w w') : Nd w' x p := Nd.turn ht (fun _ _ _ f => f) h
theorem Nd.shape {w : World} : ∀ {x : Tr Int N20} {p : Value}, Nd w x p → ∃ A, p = .pointer A
  | .nil, _, h => ⟨none, h⟩
  | .node _ _ _ _, _, ⟨g, _, _, e, _⟩ => ⟨some ⟨g, 0, none⟩, e⟩

end Go.Proofs.Ytgbphkbbedkepaa.ome

/-
  Nodes of a tree: their order, their count, a node over two trees (keys int64, values api.Entry).
-/
namespace Go.Proofs.Ytgbphkbbedkepaa.ome
open Go.RowKit

/-- A node's own cells. -/
def One (w : World) (g : Nat) (k : Int) (v : N20) (pl pr : Value) (n : Nat) : Prop := Box w g 89 #[(.int .i64 k), .int .i64 v.p.t, .int .i64 v.p.i, .int .i64 v.seg, .int .i64 v.mark, .int .i64 v.rows, .bool v.cold, pl, pr, .int .i64 (n : Int)]
theorem One.later {w w' : World} {g : Nat} {k : Int} {v : N20} {pl pr : Value} {n : Nat} (h : One w g k v pl pr n) (ht : Turn (fun _ => False) w w') : One w' g k v pl pr n := Box.turn h ht (fun f => f)
theorem One.cells {w : World} {g : Nat} {k : Int} {v : N20} {pl pr : Value} {n : Nat} (h : One w g k v pl pr n) :
    w.cell? ⟨g, 0, none⟩ = some (.int .i64 k) ∧ (w.cell? ⟨g, 1, none⟩ = some (.int .i64 v.p.t) ∧ w.cell? ⟨g, 2, none⟩ = some (.int .i64 v.p.i) ∧ w.cell? ⟨g, 3, none⟩ = some (.int .i64 v.seg) ∧ w.cell? ⟨g, 4, none⟩ = some (.int .i64 v.mark) ∧ w.cell? ⟨g, 5, none⟩ = some (.int .i64 v.rows) ∧ w.cell? ⟨g, 6, none⟩ = some (.bool v.cold)) ∧ w.cell? ⟨g, 7, none⟩ = some pl ∧ w.cell? ⟨g, 8, none⟩ = some pr ∧ w.cell? ⟨g, 9, none⟩ = some (.int .i64 (n : Int)) :=
  ⟨Box.cell h 0, ⟨Box.cell h 1, Box.cell h 2, Box.cell h 3, Box.cell h 4, Box.cell h 5, Box.cell h 6⟩, Box.cell h 7, Box.cell h 8, Box.cell h 9⟩
theorem nd_node {w : World} {l r : Tr Int N20} {k : Int} {v : N20} {p : Value} (h : Nd w (.node l k v r) p) : ∃ g pl pr, p = .pointer (some ⟨g, 0, none⟩) ∧ One w g k v pl pr (l.cnt + r.cnt + 1) ∧ Nd w l pl ∧ Nd w r pr := h

set_option maxRecDepth 100000 in
theorem nan_any (a : Int) (w : World) : Calls Try.prog 63 #[(.int .i64 a)] w fun e w' => e = .returned (.bool false) ∧ w = w' := by
  go_enter Try.func63, Try.ntmps63
  go_wp2
  go_ret
  exact ⟨by simp, rfl⟩

set_option maxRecDepth 100000 in
theorem less_any (a b : Int) (w : World) : Calls Try.prog 45 #[(.int .i64 a), (.int .i64 b)] w fun e w' => e = .returned (.bool (ltI a b)) ∧ w = w' := by
  go_enter Try.func45, Try.ntmps45
  go_wp2_with (go_at_call 63; refine (nan_any _ _).mono ?_; rintro e w' ⟨rfl, rfl⟩)
  go_ret
  exact ⟨by first | rfl | simp [ltI], rfl⟩

/-- What Compare answers. -/
def ord (a b : Int) : Int := if ltI a b then -1 else if ltI b a then 1 else 0
theorem ord_lt {a b : Int} (h : ltI a b = true) : ord a b = -1 := if_pos h
theorem ord_gt {a b : Int} (h : ltI b a = true) : ord a b = 1 := by unfold ord; rw [if_neg (by rw [not_lt_of rises_ltI h]; simp), if_pos h]
theorem ord_eq (a : Int) : ord a a = 0 := by unfold ord; rw [if_neg (by rw [rises_ltI.irr]; simp), if_neg (by rw [rises_ltI.irr]; simp)]

set_option maxRecDepth 100000 in
theorem compare_any (a b : Int) (w : World) : Calls Try.prog 97 #[(.int .i64 a), (.int .i64 b)] w fun e w' => e = .returned (.int .i64 (ord a b)) ∧ w = w' := by
  by_cases h1 : ltI a b = true
  · rw [ord_lt h1]
    have h1' : a < b := by simpa [ltI] using h1
    clear h1
    go_enter Try.func97, Try.ntmps97
    go_wp2_with (go_at_call 63; refine (nan_any _ _).mono ?_; rintro e w' ⟨rfl, rfl⟩)
    all_goals go_ret
    exact ⟨rfl, rfl⟩
  · have h1 : ltI a b = false := by simpa using h1
    by_cases h2 : a = b
    · subst h2
      rw [ord_eq]
      clear h1
      go_enter Try.func97, Try.ntmps97
      go_wp2_with (go_at_call 63; refine (nan_any _ _).mono ?_; rintro e w' ⟨rfl, rfl⟩)
      all_goals go_ret
      exact ⟨rfl, rfl⟩
    · rw [ord_gt (rises_ltI.tot _ _ h2 h1)]
      have h3 : b < a := by have := rises_ltI.tot _ _ h2 h1; simpa [ltI] using this
      have h4 : ¬ a < b := by omega
      clear h1 h2
      go_enter Try.func97, Try.ntmps97
      go_wp2_with (go_at_call 63; refine (nan_any _ _).mono ?_; rintro e w' ⟨rfl, rfl⟩)
      all_goals go_ret
      exact ⟨rfl, rfl⟩

set_option maxRecDepth 100000 in
theorem count_any {x : Tr Int N20} {w : World} {p : Value} (h : Nd w x p) : Calls Try.prog 57 #[p] w fun e w' => e = .returned (.int .i64 (x.cnt : Int)) ∧ w = w' := by
  cases x with
  | nil =>
    obtain rfl : p = .pointer none := h
    go_enter Try.func57, Try.ntmps57
    go_wp2
    go_ret
    exact ⟨rfl, rfl⟩
  | node l k v r =>
    obtain ⟨g, pl, pr, rfl, hb, hl, hr⟩ := nd_node h
    have hc := hb.cells.2.2.2.2
    show Calls _ _ _ _ fun e w' => e = .returned (.int .i64 ((l.cnt + r.cnt + 1 : Nat) : Int)) ∧ w = w'
    generalize l.cnt + r.cnt + 1 = n at *
    clear h hb hl hr
    go_enter Try.func57, Try.ntmps57
    go_wp2
    go_ret
    exact ⟨rfl, rfl⟩

/-- The behaviour of what answers a tree, new since w, whose list is L. -/
def Tree (w w' : World) (e : Ending) (x : Tr Int N20) : Prop := ∃ g, e = .returned (.pointer (some ⟨g, 0, none⟩)) ∧ Nd w' x (.pointer (some ⟨g, 0, none⟩)) ∧ Turn (fun _ => False) w w'

set_option maxRecDepth 100000 in
set_option maxHeartbeats 1000000 in
theorem over_any {l r : Tr Int N20} {w : World} {g : Nat} {k : Int} {v : N20} {ql qr pl pr : Value} {n : Nat} (h : One w g k v ql qr n) (hl : Nd w l pl) (hr : Nd w r pr) (hs : l.cnt + r.cnt ≤ 1000000000) :
    Calls Try.prog 98 #[.pointer (some ⟨g, 0, none⟩), pl, pr] w fun e w' => Tree w w' e (.node l k v r) := by
  have HL := Lib.hid hl
  have HR := Lib.hid hr
  obtain ⟨hc0, hc1, -, -, -⟩ := (h.later (Turn.refl _ w).drew).cells
  obtain ⟨pl, rfl⟩ := hl.shape
  obtain ⟨pr, rfl⟩ := hr.shape
  have hw1 : IntKind.i64.wrap ((l.cnt : Int) + (r.cnt : Int)) = (l.cnt : Int) + (r.cnt : Int) := IntWalk.i64_in _ (by omega)
  have hw2 : IntKind.i64.wrap ((l.cnt : Int) + (r.cnt : Int) + 1) = (l.cnt : Int) + (r.cnt : Int) + 1 := IntWalk.i64_in _ (by omega)
  clear hl hr
  go_enter Try.func98, Try.ntmps98
  go_wp2_with fail
  have HO := Lib.hid h; clear h
  have hc0' := hc0; have hc1' := hc1
  go_region_held3 (fun W => W.cell? ⟨g, 0, none⟩ = some (.int .i64 k) ∧ W.cell? ⟨g, 1, none⟩ = some (.int .i64 v.p.t) ∧ W.cell? ⟨g, 2, none⟩ = some (.int .i64 v.p.i) ∧ W.cell? ⟨g, 3, none⟩ = some (.int .i64 v.seg) ∧ W.cell? ⟨g, 4, none⟩ = some (.int .i64 v.mark) ∧ W.cell? ⟨g, 5, none⟩ = some (.int .i64 v.rows) ∧ W.cell? ⟨g, 6, none⟩ = some (.bool v.cold)) (first | exact ⟨hc0, hc1⟩ | exact ⟨((HO.out.later (Turn.refl _ w).drew).later ((Turn.refl _ _).alloc _)).cells.1, ((HO.out.later (Turn.refl _ w).drew).later ((Turn.refl _ _).alloc _)).cells.2.1⟩)
    (first
      | (go_at_call 57; with_reducible refine (count_any (p := .pointer pl) (HL.out.later (Turn.refl _ w).drew)).mono ?_; rintro e w' ⟨rfl, rfl⟩)
      | (go_at_call 57; with_reducible refine (count_any (p := .pointer pr) (HR.out.later (Turn.refl _ w).drew)).mono ?_; rintro e w' ⟨rfl, rfl⟩)
      | fail)
  all_goals go_wp2
  all_goals go_ret
  all_goals exact ⟨w.heap.size, rfl, ⟨w.heap.size, .pointer pl, .pointer pr, rfl, by have := Box.new w.drew 89 #[(.int .i64 k), .int .i64 v.p.t, .int .i64 v.p.i, .int .i64 v.seg, .int .i64 v.mark, .int .i64 v.rows, .bool v.cold, .pointer pl, .pointer pr, .int .i64 ((l.cnt : Int) + (r.cnt : Int) + 1)]; exact this, HL.out.later ((Turn.refl _ w).drew.alloc _), HR.out.later ((Turn.refl _ w).drew.alloc _)⟩, (Turn.refl _ w).drew.alloc _⟩

end Go.Proofs.Ytgbphkbbedkepaa.ome

/-
  A tree that is turned where one side is too heavy (keys int64, values api.Entry).
-/
namespace Go.Proofs.Ytgbphkbbedkepaa.ome
open Go.RowKit

/-- A tree with the same list. -/
def Same' (w w' : World) (e : Ending) (x : Tr Int N20) : Prop := ∃ y : Tr Int N20, y.flat = x.flat ∧ Tree w w' e y
theorem same_of {w w0 w' : World} {e : Ending} {x y : Tr Int N20} (h : Tree w0 w' e y) (ht : Turn (fun _ => False) w w0) (hf : y.flat = x.flat) : Same' w w' e x := by
  obtain ⟨g, h1, h2, h3⟩ := h
  exact ⟨y, hf, g, h1, h2, ht.trans h3 (fun _ _ f => f)⟩
theorem keeps {w : World} {x : Tr Int N20} {p : Value} (h : Nd w x p) : Hid (∀ W, Turn (fun _ => False) w W → Nd W x p) := fun _ ht => h.later ht
theorem keep1 {w : World} {g : Nat} {k : Int} {v : N20} {pl pr : Value} {n : Nat} (h : One w g k v pl pr n) : Hid (∀ W, Turn (fun _ => False) w W → One W g k v pl pr n) := fun _ ht => h.later ht
theorem flat_node (l : Tr Int N20) (k : Int) (v : N20) (r : Tr Int N20) : (Tr.node l k v r).flat = l.flat ++ (k, v) :: r.flat := rfl
theorem cnt_node (l : Tr Int N20) (k : Int) (v : N20) (r : Tr Int N20) : (Tr.node l k v r).cnt = l.cnt + r.cnt + 1 := rfl

set_option maxRecDepth 100000 in
set_option maxHeartbeats 2000000 in
theorem turnLeft_any {l a b : Tr Int N20} {k k2 : Int} {v v2 : N20} {w : World} {p : Value} (h : Nd w (.node l k v (.node a k2 v2 b)) p) (hs : l.cnt + (a.cnt + b.cnt) ≤ 1000000) :
    Calls Try.prog 109 #[p] w fun e w' => Same' w w' e (.node l k v (.node a k2 v2 b)) := by
  obtain ⟨g, pl, pr, rfl, hg, hl, hr⟩ := nd_node h
  obtain ⟨u, pa, pb, rfl, hu, ha, hb⟩ := nd_node hr
  have HG := keep1 hg; have HU := keep1 hu; have HL := keeps hl; have HA := keeps ha; have HB := keeps hb
  obtain ⟨pl, rfl⟩ := hl.shape
  obtain ⟨pa, rfl⟩ := ha.shape
  obtain ⟨pb, rfl⟩ := hb.shape
  obtain ⟨-, -, c2, c3, -⟩ := hg.cells
  obtain ⟨-, -, d2, d3, -⟩ := hu.cells
  have HCA : Hid (∀ W, Turn (fun _ => False) w W → Calls Try.prog 57 #[.pointer pa] W fun e w' => e = .returned (.int .i64 (a.cnt : Int)) ∧ W = w') := fun W ht => count_any (HA.out W ht)
  have HCB : Hid (∀ W, Turn (fun _ => False) w W → Calls Try.prog 57 #[.pointer pb] W fun e w' => e = .returned (.int .i64 (b.cnt : Int)) ∧ W = w') := fun W ht => count_any (HB.out W ht)
  clear h hg hl hr hu ha hb
  by_cases hc : a.cnt + 1 < 2 * (b.cnt + 1)
  · have hc' : (a.cnt : Int) + 1 < 2 * ((b.cnt : Int) + 1) := by omega
    go_enter Try.func109, Try.ntmps109
    go_wp2_with fail
    go_quiet (first
      | (go_at_call 57; with_reducible exact quiet_left (HCA.out _ ((Turn.refl _ w).drewN _)))
      | (go_at_call 57; with_reducible exact quiet_left (HCB.out _ ((Turn.refl _ w).drewN _))))
    go_wp2_with fail
    have HK : Hid (∀ W, Turn (fun _ => False) w W → (W.cell? ⟨g, 7, none⟩ = some (.pointer pl) ∧ W.cell? ⟨u, 7, none⟩ = some (.pointer pa) ∧ W.cell? ⟨u, 8, none⟩ = some (.pointer pb)) ∧ Turn (fun _ => False) w W) :=
      fun W ht => ⟨⟨(HG.out W ht).cells.2.2.1, (HU.out W ht).cells.2.2.1, (HU.out W ht).cells.2.2.2.1⟩, ht⟩
    go_region_held3 (fun W => (W.cell? ⟨g, 7, none⟩ = some (.pointer pl) ∧ W.cell? ⟨u, 7, none⟩ = some (.pointer pa) ∧ W.cell? ⟨u, 8, none⟩ = some (.pointer pb)) ∧ Turn (fun _ => False) w W)
      ((refine HK.out _ ?_; repeat (first | with_reducible exact Turn.refl _ w | with_reducible exact HT2.out | with_reducible exact HT.out | with_reducible refine Turn.drew ?_ | with_reducible refine Turn.drewN ?_ _)))
      (first
        | (go_at_call 98; (with_reducible refine (over_any (g := g) (pl := .pointer pl) (pr := .pointer pa) (HG.out _ ?_) (HL.out _ ?_) (HA.out _ ?_) ?_).mono ?_); exact (Turn.refl _ w).drewN _; exact (Turn.refl _ w).drewN _; exact (Turn.refl _ w).drewN _; (focus (omega)); rintro e w2 ⟨q, rfl, hn, ht⟩; have HT := Lib.hid (((Turn.refl _ w).drewN _).trans ht (fun _ _ f => f)); have HN := Lib.hid hn; clear hn ht)
        | (go_at_call 98; (with_reducible refine (over_any (g := u) (pr := .pointer pb) (HU.out _ ?_) HN.out (HB.out _ ?_) ?_).mono ?_); exact HT.out; exact HT.out; (focus (rw [cnt_node]; omega)); rintro e w3 ⟨q2, rfl, hn2, ht2⟩; have HT2 := Lib.hid (HT.out.trans ht2 (fun _ _ f => f)); have HN2 := Lib.hid hn2; clear hn2 ht2)
        | fail)
    all_goals go_wp2
    all_goals go_ret
    all_goals exact ⟨_, by simp [flat_node], q2, rfl, HN2.out, HT2.out⟩
  · have hc' : ¬ (a.cnt : Int) + 1 < 2 * ((b.cnt : Int) + 1) := by omega
    cases a with
    | nil => exact absurd (show (0 : Nat) + 1 < 2 * (b.cnt + 1) by omega) hc
    | node c k3 v3 d =>
      obtain ⟨t, pc, pd, hpa, ht, hc2, hd2⟩ := nd_node (HA.out w (Turn.refl _ w))
      cases hpa
      have HT3 := keep1 ht; have HC := keeps hc2; have HD := keeps hd2
      obtain ⟨pc, rfl⟩ := hc2.shape
      obtain ⟨pd, rfl⟩ := hd2.shape
      obtain ⟨m, hm⟩ : ∃ m, m = (Tr.node c k3 v3 d).cnt := ⟨_, rfl⟩
      rw [← hm] at hs HCA hc'
      have HM := Lib.hid (hm.trans (cnt_node c k3 v3 d))
      clear ht hc2 hd2 hc hm
      go_enter Try.func109, Try.ntmps109
      go_wp2_with fail
      go_quiet (first
        | (go_at_call 57; with_reducible exact quiet_left (HCA.out _ ((Turn.refl _ w).drewN _)))
        | (go_at_call 57; with_reducible exact quiet_left (HCB.out _ ((Turn.refl _ w).drewN _))))
      have e2 := (HU.out _ ((Turn.refl _ w).drewN nq)).cells.2.2.1
      go_wp2_with fail
      have HK : Hid (∀ W, Turn (fun _ => False) w W → (W.cell? ⟨g, 7, none⟩ = some (.pointer pl) ∧ W.cell? ⟨t, 7, none⟩ = some (.pointer pc) ∧ W.cell? ⟨t, 8, none⟩ = some (.pointer pd) ∧ W.cell? ⟨u, 8, none⟩ = some (.pointer pb)) ∧ Turn (fun _ => False) w W) :=
        fun W ht => ⟨⟨(HG.out W ht).cells.2.2.1, (HT3.out W ht).cells.2.2.1, (HT3.out W ht).cells.2.2.2.1, (HU.out W ht).cells.2.2.2.1⟩, ht⟩
      go_region_held3 (fun W => (W.cell? ⟨g, 7, none⟩ = some (.pointer pl) ∧ W.cell? ⟨t, 7, none⟩ = some (.pointer pc) ∧ W.cell? ⟨t, 8, none⟩ = some (.pointer pd) ∧ W.cell? ⟨u, 8, none⟩ = some (.pointer pb)) ∧ Turn (fun _ => False) w W)
        ((refine HK.out _ ?_; repeat (first | with_reducible exact Turn.refl _ w | with_reducible exact HTC.out | with_reducible exact HTB.out | with_reducible exact HTA.out | with_reducible refine Turn.drew ?_ | with_reducible refine Turn.drewN ?_ _)))
        (first
          | (go_at_call 98; (with_reducible refine (over_any (g := g) (pl := .pointer pl) (pr := .pointer pc) (HG.out _ ?_) (HL.out _ ?_) (HC.out _ ?_) ?_).mono ?_); exact (Turn.refl _ w).drewN _; exact (Turn.refl _ w).drewN _; exact (Turn.refl _ w).drewN _; (focus (have := HM.out; omega)); rintro e w2 ⟨q, rfl, hn, ht⟩; have HTA := Lib.hid (((Turn.refl _ w).drewN _).trans ht (fun _ _ f => f)); have HNA := Lib.hid hn; clear hn ht)
          | (go_at_call 98; (with_reducible refine (over_any (g := u) (pl := .pointer pd) (pr := .pointer pb) (HU.out _ ?_) (HD.out _ ?_) (HB.out _ ?_) ?_).mono ?_); exact HTA.out; exact HTA.out; exact HTA.out; (focus (have := HM.out; omega)); rintro e w3 ⟨q2, rfl, hn2, ht2⟩; have HTB := Lib.hid (HTA.out.trans ht2 (fun _ _ f => f)); have HNB := Lib.hid hn2; have HNA2 := Lib.hid (HNA.out.later ht2); clear hn2 ht2)
          | (go_at_call 98; (with_reducible refine (over_any (g := t) (HT3.out _ ?_) HNA2.out HNB.out ?_).mono ?_); exact HTB.out; (focus (rw [cnt_node, cnt_node]; have := HM.out; omega)); rintro e w4 ⟨q3, rfl, hn3, ht3⟩; have HTC := Lib.hid (HTB.out.trans ht3 (fun _ _ f => f)); have HNC := Lib.hid hn3; clear hn3 ht3)
          | fail)
      all_goals go_wp2
      all_goals go_ret
      all_goals exact ⟨_, by simp [flat_node], q3, rfl, HNC.out, HTC.out⟩

set_option maxRecDepth 100000 in
set_option maxHeartbeats 2000000 in
theorem turnRight_any {a b r : Tr Int N20} {k k2 : Int} {v v2 : N20} {w : World} {p : Value} (h : Nd w (.node (.node a k2 v2 b) k v r) p) (hs : (a.cnt + b.cnt) + r.cnt ≤ 1000000) :
    Calls Try.prog 110 #[p] w fun e w' => Same' w w' e (.node (.node a k2 v2 b) k v r) := by
  obtain ⟨g, pl, pr, rfl, hg, hl, hr⟩ := nd_node h
  obtain ⟨u, pa, pb, rfl, hu, ha, hb⟩ := nd_node hl
  have HG := keep1 hg; have HU := keep1 hu; have HR := keeps hr; have HA := keeps ha; have HB := keeps hb
  obtain ⟨pr, rfl⟩ := hr.shape
  obtain ⟨pa, rfl⟩ := ha.shape
  obtain ⟨pb, rfl⟩ := hb.shape
  obtain ⟨-, -, c2, c3, -⟩ := hg.cells
  obtain ⟨-, -, d2, d3, -⟩ := hu.cells
  have HCA : Hid (∀ W, Turn (fun _ => False) w W → Calls Try.prog 57 #[.pointer pa] W fun e w' => e = .returned (.int .i64 (a.cnt : Int)) ∧ W = w') := fun W ht => count_any (HA.out W ht)
  have HCB : Hid (∀ W, Turn (fun _ => False) w W → Calls Try.prog 57 #[.pointer pb] W fun e w' => e = .returned (.int .i64 (b.cnt : Int)) ∧ W = w') := fun W ht => count_any (HB.out W ht)
  clear h hg hl hr hu ha hb
  by_cases hc : b.cnt + 1 < 2 * (a.cnt + 1)
  · have hc' : (b.cnt : Int) + 1 < 2 * ((a.cnt : Int) + 1) := by omega
    go_enter Try.func110, Try.ntmps110
    go_wp2_with fail
    go_quiet (first
      | (go_at_call 57; with_reducible exact quiet_left (HCA.out _ ((Turn.refl _ w).drewN _)))
      | (go_at_call 57; with_reducible exact quiet_left (HCB.out _ ((Turn.refl _ w).drewN _))))
    go_wp2_with fail
    have HK : Hid (∀ W, Turn (fun _ => False) w W → (W.cell? ⟨u, 7, none⟩ = some (.pointer pa) ∧ W.cell? ⟨u, 8, none⟩ = some (.pointer pb) ∧ W.cell? ⟨g, 8, none⟩ = some (.pointer pr)) ∧ Turn (fun _ => False) w W) :=
      fun W ht => ⟨⟨(HU.out W ht).cells.2.2.1, (HU.out W ht).cells.2.2.2.1, (HG.out W ht).cells.2.2.2.1⟩, ht⟩
    go_region_held3 (fun W => (W.cell? ⟨u, 7, none⟩ = some (.pointer pa) ∧ W.cell? ⟨u, 8, none⟩ = some (.pointer pb) ∧ W.cell? ⟨g, 8, none⟩ = some (.pointer pr)) ∧ Turn (fun _ => False) w W)
      ((refine HK.out _ ?_; repeat (first | with_reducible exact Turn.refl _ w | with_reducible exact HT2.out | with_reducible exact HT.out | with_reducible refine Turn.drew ?_ | with_reducible refine Turn.drewN ?_ _)))
      (first
        | (go_at_call 98; (with_reducible refine (over_any (g := g) (pl := .pointer pb) (pr := .pointer pr) (HG.out _ ?_) (HB.out _ ?_) (HR.out _ ?_) ?_).mono ?_); exact (Turn.refl _ w).drewN _; exact (Turn.refl _ w).drewN _; exact (Turn.refl _ w).drewN _; (focus (omega)); rintro e w2 ⟨q, rfl, hn, ht⟩; have HT := Lib.hid (((Turn.refl _ w).drewN _).trans ht (fun _ _ f => f)); have HN := Lib.hid hn; clear hn ht)
        | (go_at_call 98; (with_reducible refine (over_any (g := u) (pl := .pointer pa) (HU.out _ ?_) (HA.out _ ?_) HN.out ?_).mono ?_); exact HT.out; exact HT.out; (focus (rw [cnt_node]; omega)); rintro e w3 ⟨q2, rfl, hn2, ht2⟩; have HT2 := Lib.hid (HT.out.trans ht2 (fun _ _ f => f)); have HN2 := Lib.hid hn2; clear hn2 ht2)
        | fail)
    all_goals go_wp2
    all_goals go_ret
    all_goals exact ⟨_, by simp [flat_node], q2, rfl, HN2.out, HT2.out⟩
  · have hc' : ¬ (b.cnt : Int) + 1 < 2 * ((a.cnt : Int) + 1) := by omega
    cases b with
    | nil => exact absurd (show (0 : Nat) + 1 < 2 * (a.cnt + 1) by omega) hc
    | node c k3 v3 d =>
      obtain ⟨t, pc, pd, hpa, ht, hc2, hd2⟩ := nd_node (HB.out w (Turn.refl _ w))
      cases hpa
      have HT3 := keep1 ht; have HC := keeps hc2; have HD := keeps hd2
      obtain ⟨pc, rfl⟩ := hc2.shape
      obtain ⟨pd, rfl⟩ := hd2.shape
      obtain ⟨m, hm⟩ : ∃ m, m = (Tr.node c k3 v3 d).cnt := ⟨_, rfl⟩
      rw [← hm] at hs HCB hc'
      have HM := Lib.hid (hm.trans (cnt_node c k3 v3 d))
      clear ht hc2 hd2 hc hm
      go_enter Try.func110, Try.ntmps110
      go_wp2_with fail
      go_quiet (first
        | (go_at_call 57; with_reducible exact quiet_left (HCA.out _ ((Turn.refl _ w).drewN _)))
        | (go_at_call 57; with_reducible exact quiet_left (HCB.out _ ((Turn.refl _ w).drewN _))))
      have e2 := (HU.out _ ((Turn.refl _ w).drewN nq)).cells.2.2.2.1
      go_wp2_with fail
      have HK : Hid (∀ W, Turn (fun _ => False) w W → (W.cell? ⟨u, 7, none⟩ = some (.pointer pa) ∧ W.cell? ⟨t, 7, none⟩ = some (.pointer pc) ∧ W.cell? ⟨t, 8, none⟩ = some (.pointer pd) ∧ W.cell? ⟨g, 8, none⟩ = some (.pointer pr)) ∧ Turn (fun _ => False) w W) :=
        fun W ht => ⟨⟨(HU.out W ht).cells.2.2.1, (HT3.out W ht).cells.2.2.1, (HT3.out W ht).cells.2.2.2.1, (HG.out W ht).cells.2.2.2.1⟩, ht⟩
      go_region_held3 (fun W => (W.cell? ⟨u, 7, none⟩ = some (.pointer pa) ∧ W.cell? ⟨t, 7, none⟩ = some (.pointer pc) ∧ W.cell? ⟨t, 8, none⟩ = some (.pointer pd) ∧ W.cell? ⟨g, 8, none⟩ = some (.pointer pr)) ∧ Turn (fun _ => False) w W)
        ((refine HK.out _ ?_; repeat (first | with_reducible exact Turn.refl _ w | with_reducible exact HTC.out | with_reducible exact HTB.out | with_reducible exact HTA.out | with_reducible refine Turn.drew ?_ | with_reducible refine Turn.drewN ?_ _)))
        (first
          | (go_at_call 98; (with_reducible refine (over_any (g := u) (pl := .pointer pa) (pr := .pointer pc) (HU.out _ ?_) (HA.out _ ?_) (HC.out _ ?_) ?_).mono ?_); exact (Turn.refl _ w).drewN _; exact (Turn.refl _ w).drewN _; exact (Turn.refl _ w).drewN _; (focus (have := HM.out; omega)); rintro e w2 ⟨q, rfl, hn, ht⟩; have HTA := Lib.hid (((Turn.refl _ w).drewN _).trans ht (fun _ _ f => f)); have HNA := Lib.hid hn; clear hn ht)
          | (go_at_call 98; (with_reducible refine (over_any (g := g) (pl := .pointer pd) (pr := .pointer pr) (HG.out _ ?_) (HD.out _ ?_) (HR.out _ ?_) ?_).mono ?_); exact HTA.out; exact HTA.out; exact HTA.out; (focus (have := HM.out; omega)); rintro e w3 ⟨q2, rfl, hn2, ht2⟩; have HTB := Lib.hid (HTA.out.trans ht2 (fun _ _ f => f)); have HNB := Lib.hid hn2; have HNA2 := Lib.hid (HNA.out.later ht2); clear hn2 ht2)
          | (go_at_call 98; (with_reducible refine (over_any (g := t) (HT3.out _ ?_) HNA2.out HNB.out ?_).mono ?_); exact HTB.out; (focus (rw [cnt_node, cnt_node]; have := HM.out; omega)); rintro e w4 ⟨q3, rfl, hn3, ht3⟩; have HTC := Lib.hid (HTB.out.trans ht3 (fun _ _ f => f)); have HNC := Lib.hid hn3; clear hn3 ht3)
          | fail)
      all_goals go_wp2
      all_goals go_ret
      all_goals exact ⟨_, by simp [flat_node], q3, rfl, HNC.out, HTC.out⟩

set_option maxRecDepth 100000 in
set_option maxHeartbeats 2000000 in
theorem even_any {l r : Tr Int N20} {k : Int} {v : N20} {w : World} {p : Value} (h : Nd w (.node l k v r) p) (hs : l.cnt + r.cnt ≤ 1000000) :
    Calls Try.prog 99 #[p] w fun e w' => Same' w w' e (.node l k v r) := by
  have HN := keeps h
  obtain ⟨g, pl, pr, rfl, hg, hl, hr⟩ := nd_node h
  have HG := keep1 hg; have HL := keeps hl; have HR := keeps hr
  obtain ⟨pl, rfl⟩ := hl.shape
  obtain ⟨pr, rfl⟩ := hr.shape
  obtain ⟨-, -, c2, c3, -⟩ := hg.cells
  have HCL : Hid (∀ W, Turn (fun _ => False) w W → Calls Try.prog 57 #[.pointer pl] W fun e w' => e = .returned (.int .i64 (l.cnt : Int)) ∧ W = w') := fun W ht => count_any (HL.out W ht)
  have HCR : Hid (∀ W, Turn (fun _ => False) w W → Calls Try.prog 57 #[.pointer pr] W fun e w' => e = .returned (.int .i64 (r.cnt : Int)) ∧ W = w') := fun W ht => count_any (HR.out W ht)
  clear h hg hl hr
  by_cases h1 : 3 * (l.cnt + 1) < r.cnt + 1
  · cases r with
    | nil => exact absurd h1 (by show ¬ 3 * (l.cnt + 1) < 0 + 1; omega)
    | node a k2 v2 b =>
      have HT : Hid (∀ W, Turn (fun _ => False) w W → Calls Try.prog 109 #[.pointer (some ⟨g, 0, none⟩)] W fun e w' => Same' W w' e (.node l k v (.node a k2 v2 b))) := fun W ht => turnLeft_any (HN.out W ht) (by rw [cnt_node] at hs; omega)
      generalize (Tr.node a k2 v2 b) = r at *
      have h1' : 3 * ((l.cnt : Int) + 1) < (r.cnt : Int) + 1 := by omega
      go_enter Try.func99, Try.ntmps99
      go_wp2_with fail
      go_quiet (first
        | (go_at_call 57; with_reducible exact quiet_left (HCL.out _ ((Turn.refl _ w).drewN _)))
        | (go_at_call 57; with_reducible exact quiet_left (HCR.out _ ((Turn.refl _ w).drewN _))))
      go_wp2_with (go_at_call 109; refine (HT.out _ ((Turn.refl _ w).drewN _)).mono ?_; rintro e w' ⟨y, hf, q, rfl, hn, ht⟩; have HF := Lib.hid hf; have HQ := Lib.hid hn; have HTT := Lib.hid ht; clear hf hn ht)
      go_ret
      exact ⟨y, HF.out, q, rfl, HQ.out, ((Turn.refl _ w).drewN _).trans HTT.out (fun _ _ f => f)⟩
  · by_cases h2 : 3 * (r.cnt + 1) < l.cnt + 1
    · cases l with
      | nil => exact absurd h2 (by show ¬ 3 * (r.cnt + 1) < 0 + 1; omega)
      | node a k2 v2 b =>
        have HT : Hid (∀ W, Turn (fun _ => False) w W → Calls Try.prog 110 #[.pointer (some ⟨g, 0, none⟩)] W fun e w' => Same' W w' e (.node (.node a k2 v2 b) k v r)) := fun W ht => turnRight_any (HN.out W ht) (by rw [cnt_node] at hs; omega)
        generalize (Tr.node a k2 v2 b) = l at *
        have h1' : ¬ 3 * ((l.cnt : Int) + 1) < (r.cnt : Int) + 1 := by omega
        have h2' : 3 * ((r.cnt : Int) + 1) < (l.cnt : Int) + 1 := by omega
        go_enter Try.func99, Try.ntmps99
        go_wp2_with fail
        go_quiet (first
          | (go_at_call 57; with_reducible exact quiet_left (HCL.out _ ((Turn.refl _ w).drewN _)))
          | (go_at_call 57; with_reducible exact quiet_left (HCR.out _ ((Turn.refl _ w).drewN _))))
        go_wp2_with (go_at_call 110; refine (HT.out _ ((Turn.refl _ w).drewN _)).mono ?_; rintro e w' ⟨y, hf, q, rfl, hn, ht⟩; have HF := Lib.hid hf; have HQ := Lib.hid hn; have HTT := Lib.hid ht; clear hf hn ht)
        go_ret
        exact ⟨y, HF.out, q, rfl, HQ.out, ((Turn.refl _ w).drewN _).trans HTT.out (fun _ _ f => f)⟩
    · have h1' : ¬ 3 * ((l.cnt : Int) + 1) < (r.cnt : Int) + 1 := by omega
      have h2' : ¬ 3 * ((r.cnt : Int) + 1) < (l.cnt : Int) + 1 := by omega
      go_enter Try.func99, Try.ntmps99
      go_wp2_with fail
      go_quiet (first
        | (go_at_call 57; with_reducible exact quiet_left (HCL.out _ ((Turn.refl _ w).drewN _)))
        | (go_at_call 57; with_reducible exact quiet_left (HCR.out _ ((Turn.refl _ w).drewN _))))
      go_wp2_with fail
      go_ret
      exact ⟨_, rfl, g, rfl, HN.out _ ((Turn.refl _ w).drewN _), (Turn.refl _ w).drewN _⟩

end Go.Proofs.Ytgbphkbbedkepaa.ome

/-
  A tree in which a key has a value (keys int64, values api.Entry).
-/
namespace Go.Proofs.Ytgbphkbbedkepaa.ome
open Go.RowKit

/-- A tree whose list is L. -/
def Has (w w' : World) (e : Ending) (L : List (Int × N20)) : Prop := ∃ y : Tr Int N20, y.flat = L ∧ Tree w w' e y
theorem same_has {w w' : World} {e : Ending} {x : Tr Int N20} (h : Same' w w' e x) : Has w w' e x.flat := h
theorem cnt_of {y : Tr Int N20} {L : List (Int × N20)} (h : y.flat = L) : y.cnt = L.length := by rw [← h, Tr.cnt_flat]
theorem cnt_put {x y : Tr Int N20} {k : Int} {v : N20} (h : y.flat = putK ltI x.flat k v) : y.cnt ≤ x.cnt + 1 := by
  rw [cnt_of h, put_size, Tr.cnt_flat]
  split <;> omega
theorem cnt_drop {x y : Tr Int N20} {k : Int} (h : y.flat = dropK ltI x.flat k) : y.cnt ≤ x.cnt := by
  have := drop_size (lt := ltI) x.flat k
  rw [cnt_of h, ← Tr.cnt_flat x]
  omega
theorem keep_call {w : World} {x : Tr Int N20} {p : Value} (h : Nd w x p) : ∃ A, p = .pointer A := h.shape

theorem ent_box {W : World} {q : Nat} {v : N20} (h : Box W q 32 (ecells20 v)) : W.cell? ⟨q, 0, none⟩ = some (.int .i64 v.p.t) ∧ W.cell? ⟨q, 1, none⟩ = some (.int .i64 v.p.i) ∧ W.cell? ⟨q, 2, none⟩ = some (.int .i64 v.seg) ∧ W.cell? ⟨q, 3, none⟩ = some (.int .i64 v.mark) ∧ W.cell? ⟨q, 4, none⟩ = some (.int .i64 v.rows) ∧ W.cell? ⟨q, 5, none⟩ = some (.bool v.cold) := box_n20 h

set_option maxRecDepth 100000 in
set_option maxHeartbeats 8000000 in
theorem with_any (k : Int) (v : N20) (x : Tr Int N20) : ∀ (w : World) (p : Value), Nd w x p → x.cnt ≤ 999999 → Up ltI x.flat →
    Calls Try.prog 76 #[p, (.int .i64 k), (ev20 v)] w fun e w' => Has w w' e (putK ltI x.flat k v) := by
  induction x with
  | nil =>
    intro w p h _ _
    obtain rfl : p = .pointer none := h
    have HB : Hid (Nd ((w.alloc (.cells (ecells20 v) 32)).alloc (.cells #[.int .i64 k, .int .i64 v.p.t, .int .i64 v.p.i, .int .i64 v.seg, .int .i64 v.mark, .int .i64 v.rows, .bool v.cold, .pointer none, .pointer none, .int .i64 1] 89)) (.node .nil k v .nil) (.pointer (some ⟨w.heap.size + 1, 0, none⟩))) := by
      have h := Box.new (w.alloc (.cells (ecells20 v) 32)) 89 #[.int .i64 k, .int .i64 v.p.t, .int .i64 v.p.i, .int .i64 v.seg, .int .i64 v.mark, .int .i64 v.rows, .bool v.cold, .pointer none, .pointer none, .int .i64 1]
      rw [World.size_alloc] at h
      exact ⟨w.heap.size + 1, .pointer none, .pointer none, rfl, h, rfl, rfl⟩
    go_enter Try.func76, Try.ntmps76
    go_wp2
    go_ret
    exact ⟨.node .nil k v .nil, rfl, w.heap.size + 1, rfl, HB.out, ((Turn.refl _ w).alloc _).alloc _⟩
  | node l k0 v0 r ihl ihr =>
    intro w p h hs hu
    obtain ⟨g, pl, pr, rfl, hg, hl, hr⟩ := nd_node h
    obtain ⟨pl, rfl⟩ := hl.shape
    obtain ⟨pr, rfl⟩ := hr.shape
    obtain ⟨q, hq⟩ : ∃ q, q = w.heap.size := ⟨_, rfl⟩
    obtain ⟨w0, hw0⟩ : ∃ w0, w0 = w.alloc (.cells (ecells20 v) 32) := ⟨_, rfl⟩
    have HT0 : Hid (Turn (fun _ => False) w w0) := by rw [hw0]; exact (Turn.refl _ w).alloc _
    have HBV : Hid (Box w0 q 32 (ecells20 v)) := by rw [hw0, hq]; exact Box.new w _ _
    have c0 := (hg.later HT0.out).cells.1
    rw [hw0] at c0
    have HG := keep1 (hg.later HT0.out); have HL := keeps (hl.later HT0.out); have HR := keeps (hr.later HT0.out)
    have HW0 := Lib.hid hw0; have HQ := Lib.hid hq
    obtain ⟨hu1, hu2, hu3⟩ := up_parts hu
    rw [cnt_node] at hs
    clear h hg hl hr hu hw0 hq
    have HK : Hid (∀ W, Turn (fun _ => False) w0 W → (W.cell? ⟨g, 7, none⟩ = some (.pointer pl) ∧ W.cell? ⟨g, 8, none⟩ = some (.pointer pr) ∧ W.cell? ⟨q, 0, none⟩ = some (.int .i64 v.p.t) ∧ W.cell? ⟨q, 1, none⟩ = some (.int .i64 v.p.i) ∧ W.cell? ⟨q, 2, none⟩ = some (.int .i64 v.seg) ∧ W.cell? ⟨q, 3, none⟩ = some (.int .i64 v.mark) ∧ W.cell? ⟨q, 4, none⟩ = some (.int .i64 v.rows) ∧ W.cell? ⟨q, 5, none⟩ = some (.bool v.cold)) ∧ Turn (fun _ => False) w0 W) :=
      fun W ht => ⟨⟨(HG.out W ht).cells.2.2.1, (HG.out W ht).cells.2.2.2.1, ent_box (HBV.out.turn ht (fun f => f))⟩, ht⟩
    by_cases h1 : ltI k k0 = true
    · have hp : putK ltI (Tr.node l k0 v0 r).flat k v = putK ltI l.flat k v ++ (k0, v0) :: r.flat := put_left rises_ltI (p := (k0, v0)) h1 v r.flat l.flat
      rw [hp]
      have HC : Hid (∀ W, Calls Try.prog 97 #[(.int .i64 k), (.int .i64 k0)] W fun e w' => e = .returned (.int .i64 (-1)) ∧ W = w') := fun W => by have := compare_any k k0 W; rw [ord_lt h1] at this; exact this
      have HI : Hid (∀ W, Turn (fun _ => False) w0 W → Calls Try.prog 76 #[.pointer pl, (.int .i64 k), (ev20 v)] W fun e w' => Has W w' e (putK ltI l.flat k v)) := fun W ht => ihl W _ (HL.out W ht) (by omega) hu1
      clear ihl ihr hu1 hu2 hu3 hp h1
      go_enter Try.func76, Try.ntmps76
      go_wp2_with fail
      rw [← HW0.out, ← HQ.out]
      refine (HC.out _).mono ?_
      rintro e w' ⟨rfl, rfl⟩
      go_wp2_with fail
      go_region_held3 (fun W => (W.cell? ⟨g, 7, none⟩ = some (.pointer pl) ∧ W.cell? ⟨g, 8, none⟩ = some (.pointer pr) ∧ W.cell? ⟨q, 0, none⟩ = some (.int .i64 v.p.t) ∧ W.cell? ⟨q, 1, none⟩ = some (.int .i64 v.p.i) ∧ W.cell? ⟨q, 2, none⟩ = some (.int .i64 v.seg) ∧ W.cell? ⟨q, 3, none⟩ = some (.int .i64 v.mark) ∧ W.cell? ⟨q, 4, none⟩ = some (.int .i64 v.rows) ∧ W.cell? ⟨q, 5, none⟩ = some (.bool v.cold)) ∧ Turn (fun _ => False) w0 W)
        ((refine HK.out _ ?_; repeat (first | with_reducible exact Turn.refl _ w0 | with_reducible exact HTC.out | with_reducible exact HTB.out | with_reducible exact HTA.out | with_reducible refine Turn.drew ?_ | with_reducible refine Turn.drewN ?_ _)))
        (first
          | (go_at_call 76; (with_reducible refine (HI.out _ ?_).mono ?_); exact (Turn.refl _ w0).drew; rintro e w2 ⟨y, hy, q1, rfl, hn, ht⟩; have HTA := Lib.hid ((Turn.refl _ w0).drew.trans ht (fun _ _ f => f)); have HNA := Lib.hid hn; have HY := Lib.hid hy; clear hn ht hy)
          | (go_at_call 98; (with_reducible refine (over_any (g := g) (pr := .pointer pr) (HG.out _ ?_) HNA.out (HR.out _ ?_) ?_).mono ?_); exact HTA.out; exact HTA.out; (focus (have := cnt_put HY.out; omega)); rintro e w3 ⟨q2, rfl, hn2, ht2⟩; have HTB := Lib.hid (HTA.out.trans ht2 (fun _ _ f => f)); have HNB := Lib.hid hn2; clear hn2 ht2)
          | (go_at_call 99; (with_reducible refine (even_any HNB.out ?_).mono ?_); (focus (have := cnt_put HY.out; omega)); rintro e w4 ⟨z, hz, q3, rfl, hn3, ht3⟩; have HTC := Lib.hid (HTB.out.trans ht3 (fun _ _ f => f)); have HNC := Lib.hid hn3; have HZ := Lib.hid hz; clear hn3 ht3 hz)
          | fail)
      all_goals go_wp2
      all_goals go_ret
      all_goals exact ⟨z, by rw [HZ.out, flat_node, HY.out], q3, rfl, HNC.out, HT0.out.trans HTC.out (fun _ _ f => f)⟩
    · by_cases h2 : ltI k0 k = true
      · have hp : putK ltI (Tr.node l k0 v0 r).flat k v = l.flat ++ (k0, v0) :: putK ltI r.flat k v := put_right (p := (k0, v0)) h2 v r.flat l.flat (hu3.tr rises_ltI h2)
        rw [hp]
        have HC : Hid (∀ W, Calls Try.prog 97 #[(.int .i64 k), (.int .i64 k0)] W fun e w' => e = .returned (.int .i64 1) ∧ W = w') := fun W => by have := compare_any k k0 W; rw [ord_gt h2] at this; exact this
        have HI : Hid (∀ W, Turn (fun _ => False) w0 W → Calls Try.prog 76 #[.pointer pr, (.int .i64 k), (ev20 v)] W fun e w' => Has W w' e (putK ltI r.flat k v)) := fun W ht => ihr W _ (HR.out W ht) (by omega) hu2
        clear ihl ihr hu1 hu2 hu3 hp h1 h2
        go_enter Try.func76, Try.ntmps76
        go_wp2_with fail
        rw [← HW0.out, ← HQ.out]
        refine (HC.out _).mono ?_
        rintro e w' ⟨rfl, rfl⟩
        go_wp2_with fail
        go_region_held3 (fun W => (W.cell? ⟨g, 7, none⟩ = some (.pointer pl) ∧ W.cell? ⟨g, 8, none⟩ = some (.pointer pr) ∧ W.cell? ⟨q, 0, none⟩ = some (.int .i64 v.p.t) ∧ W.cell? ⟨q, 1, none⟩ = some (.int .i64 v.p.i) ∧ W.cell? ⟨q, 2, none⟩ = some (.int .i64 v.seg) ∧ W.cell? ⟨q, 3, none⟩ = some (.int .i64 v.mark) ∧ W.cell? ⟨q, 4, none⟩ = some (.int .i64 v.rows) ∧ W.cell? ⟨q, 5, none⟩ = some (.bool v.cold)) ∧ Turn (fun _ => False) w0 W)
          ((refine HK.out _ ?_; repeat (first | with_reducible exact Turn.refl _ w0 | with_reducible exact HTC.out | with_reducible exact HTB.out | with_reducible exact HTA.out | with_reducible refine Turn.drew ?_ | with_reducible refine Turn.drewN ?_ _)))
          (first
          | (go_at_call 76; (with_reducible refine (HI.out _ ?_).mono ?_); exact (Turn.refl _ w0).drew; rintro e w2 ⟨y, hy, q1, rfl, hn, ht⟩; have HTA := Lib.hid ((Turn.refl _ w0).drew.trans ht (fun _ _ f => f)); have HNA := Lib.hid hn; have HY := Lib.hid hy; clear hn ht hy)
          | (go_at_call 98; (with_reducible refine (over_any (g := g) (pl := .pointer pl) (HG.out _ ?_) (HL.out _ ?_) HNA.out ?_).mono ?_); exact HTA.out; exact HTA.out; (focus (have := cnt_put HY.out; omega)); rintro e w3 ⟨q2, rfl, hn2, ht2⟩; have HTB := Lib.hid (HTA.out.trans ht2 (fun _ _ f => f)); have HNB := Lib.hid hn2; clear hn2 ht2)
          | (go_at_call 99; (with_reducible refine (even_any HNB.out ?_).mono ?_); (focus (have := cnt_put HY.out; omega)); rintro e w4 ⟨z, hz, q3, rfl, hn3, ht3⟩; have HTC := Lib.hid (HTB.out.trans ht3 (fun _ _ f => f)); have HNC := Lib.hid hn3; have HZ := Lib.hid hz; clear hn3 ht3 hz)
          | fail)
        all_goals go_wp2
        all_goals go_ret
        all_goals exact ⟨z, by rw [HZ.out, flat_node, HY.out], q3, rfl, HNC.out, HT0.out.trans HTC.out (fun _ _ f => f)⟩
      · have he : k0 = k := by
          by_cases e : k0 = k
          · exact e
          · exact absurd (rises_ltI.tot _ _ e (by simpa using h2)) h1
        subst he
        have hp : putK ltI (Tr.node l k0 v0 r).flat k0 v = l.flat ++ (k0, v) :: r.flat := put_same rises_ltI (p := (k0, v0)) v r.flat l.flat hu3
        rw [hp]
        have HC : Hid (∀ W, Calls Try.prog 97 #[(.int .i64 k0), (.int .i64 k0)] W fun e w' => e = .returned (.int .i64 0) ∧ W = w') := fun W => by have := compare_any k0 k0 W; rw [ord_eq] at this; exact this
        clear ihl ihr hu1 hu2 hu3 hp h1 h2
        have HSZ : Hid (∀ W, Turn (fun _ => False) w0 W → W.cell? ⟨g, 9, none⟩ = some (.int .i64 ((l.cnt + r.cnt + 1 : Nat) : Int))) := fun W ht => (HG.out W ht).cells.2.2.2.2
        obtain ⟨m, hm⟩ : ∃ m, m = l.cnt + r.cnt + 1 := ⟨_, rfl⟩
        rw [← hm] at HSZ
        have HM := Lib.hid hm; clear hm
        go_enter Try.func76, Try.ntmps76
        go_wp2_with fail
        rw [← HW0.out, ← HQ.out]
        refine (HC.out _).mono ?_
        rintro e w' ⟨rfl, rfl⟩
        go_wp2_with fail
        have hS0 := HK.out _ (Turn.refl (fun _ => False) w0).drew
        have c9 := HSZ.out _ (Turn.refl (fun _ => False) w0).drew
        obtain ⟨⟨c7, c8, v0, v1, v2, v3, v4, v5⟩, -⟩ := hS0
        go_region
        all_goals go_wp2
        all_goals go_ret
        all_goals exact ⟨.node l k0 v r, rfl, w0.heap.size, rfl, ⟨w0.heap.size, .pointer pl, .pointer pr, rfl, by rw [← HM.out]; exact Box.new w0.drew 89 #[(.int .i64 k0), .int .i64 v.p.t, .int .i64 v.p.i, .int .i64 v.seg, .int .i64 v.mark, .int .i64 v.rows, .bool v.cold, .pointer pl, .pointer pr, .int .i64 (m : Int)], HL.out _ ((Turn.refl _ w0).drew.alloc _), HR.out _ ((Turn.refl _ w0).drew.alloc _)⟩, HT0.out.trans ((Turn.refl _ w0).drew.alloc _) (fun _ _ f => f)⟩

end Go.Proofs.Ytgbphkbbedkepaa.ome

/-
  A tree's least key; a tree in which a key has no value (keys int64, values api.Entry).
-/
namespace Go.Proofs.Ytgbphkbbedkepaa.ome
open Go.RowKit

/-- A tree, perhaps empty, whose list is L. -/
def Has0 (w w' : World) (e : Ending) (L : List (Int × N20)) : Prop := ∃ (y : Tr Int N20) (A : Option Addr), y.flat = L ∧ e = .returned (.pointer A) ∧ Nd w' y (.pointer A) ∧ Turn (fun _ => False) w w'
/-- How many nodes a tree has, as its top says. -/
def szAt (w : World) : Value → Nat
  | .pointer (some a) => match w.cell? ⟨a.block, 9, none⟩ with
    | some (.int _ n) => n.toNat
    | _ => 0
  | _ => 0
theorem sz_is {w : World} {x : Tr Int N20} {p : Value} (h : Nd w x p) : szAt w p = x.cnt := by
  cases x with
  | nil => obtain rfl : p = .pointer none := h; rfl
  | node l k v r =>
    obtain ⟨g, pl, pr, rfl, hg, _, _⟩ := nd_node h
    unfold szAt
    dsimp only
    rw [hg.cells.2.2.2.2]
    rfl

/-- A node with the least key of a tree. -/
def Least (w : World) (x : Tr Int N20) (p : Value) : Prop := ∃ g k v pl pr n rest, p = .pointer (some ⟨g, 0, none⟩) ∧ One w g k v pl pr n ∧ x.flat = (k, v) :: rest
structure LeastRel (w : World) (x : Tr Int N20) (p : Value) : Prop where
  out : ∃ (l r : Tr Int N20) (k : Int) (v : N20) (tl : List (Int × N20)), Nd w (.node l k v r) p ∧ x.flat = (Tr.node l k v r).flat ++ tl

set_option maxRecDepth 100000 in
set_option maxHeartbeats 1000000 in
theorem least_any {l r : Tr Int N20} {k : Int} {v : N20} {w : World} {p : Value} (h : Nd w (.node l k v r) p) :
    Calls Try.prog 100 #[p] w fun e w' => (∃ u, e = .returned u ∧ Least w (.node l k v r) u) ∧ w = w' := by
  have HR : Hid (LeastRel w (.node l k v r) p) := ⟨l, r, k, v, [], h, by rw [List.append_nil]⟩
  clear h
  generalize (Tr.node l k v r) = x at *
  go_enter Try.func100, Try.ntmps100
  go_wp2
  go_loop [0] (fun x0 => LeastRel w x x0) (fun x0 => szAt w x0)
  case atStart => exact HR.out
  case round =>
    obtain ⟨l, r, k, v, tl, hn, hf⟩ := hrel.out
    have HSZ := Lib.hid (sz_is hn)
    obtain ⟨g, pl, pr, rfl, hg, hl, hr⟩ := nd_node hn
    have hc2 := hg.cells.2.2.1
    have HG := Lib.hid hg; have HF := Lib.hid hf; clear hg hf hn hrel HR
    cases l with
    | nil =>
      obtain rfl : pl = .pointer none := hl
      clear hr
      go_wp2
      go_ret
      exact ⟨⟨_, rfl, g, k, v, _, _, _, _, rfl, HG.out, HF.out⟩, rfl⟩
    | node a k2 v2 b =>
      have HSL := Lib.hid (sz_is hl)
      have HL := Lib.hid hl
      obtain ⟨u, pa, pb, rfl, -, -, -⟩ := nd_node hl
      clear hl hr
      go_wp2
      go_round
      case rel => exact ⟨a, b, k2, v2, _, HL.out, by rw [HF.out, flat_node, List.append_assoc]⟩
      case measure => have h1 := HSZ.out; have h2 := HSL.out; rw [cnt_node] at h1; show szAt w _ < szAt w _; rw [h1, h2]; omega

set_option maxRecDepth 100000 in
set_option maxHeartbeats 4000000 in
theorem without_any (x : Tr Int N20) : ∀ (k : Int) (w : World) (p : Value), Nd w x p → x.cnt ≤ 999999 → Up ltI x.flat →
    Calls Try.prog 73 #[p, (.int .i64 k)] w fun e w' => Has0 w w' e (dropK ltI x.flat k) := by
  induction x with
  | nil =>
    intro k w p h _ _
    obtain rfl : p = .pointer none := h
    go_enter Try.func73, Try.ntmps73
    go_wp2
    go_ret
    exact ⟨.nil, none, rfl, rfl, rfl, Turn.refl _ w⟩
  | node l k0 v0 r ihl ihr =>
    intro k w p h hs hu
    obtain ⟨g, pl, pr, rfl, hg, hl, hr⟩ := nd_node h
    have HG := keep1 hg; have HL := keeps hl; have HR := keeps hr
    obtain ⟨pl, rfl⟩ := hl.shape
    obtain ⟨pr, rfl⟩ := hr.shape
    obtain ⟨c0, -, c2, c3, -⟩ := hg.cells
    obtain ⟨hu1, hu2, hu3⟩ := up_parts hu
    rw [cnt_node] at hs
    clear h hg hu
    have HK : Hid (∀ W, Turn (fun _ => False) w W → (W.cell? ⟨g, 7, none⟩ = some (.pointer pl) ∧ W.cell? ⟨g, 8, none⟩ = some (.pointer pr)) ∧ Turn (fun _ => False) w W) :=
      fun W ht => ⟨⟨(HG.out W ht).cells.2.2.1, (HG.out W ht).cells.2.2.2.1⟩, ht⟩
    by_cases h1 : ltI k k0 = true
    · have hp : dropK ltI (Tr.node l k0 v0 r).flat k = dropK ltI l.flat k ++ (k0, v0) :: r.flat := drop_left rises_ltI (p := (k0, v0)) h1 r.flat l.flat
      rw [hp]
      have HC : Hid (∀ W, Calls Try.prog 97 #[(.int .i64 k), (.int .i64 k0)] W fun e w' => e = .returned (.int .i64 (-1)) ∧ W = w') := fun W => by have := compare_any k k0 W; rw [ord_lt h1] at this; exact this
      have HI : Hid (∀ W, Turn (fun _ => False) w W → Calls Try.prog 73 #[.pointer pl, (.int .i64 k)] W fun e w' => Has0 W w' e (dropK ltI l.flat k)) := fun W ht => ihl k W _ (HL.out W ht) (by omega) hu1
      clear ihl ihr hu1 hu2 hu3 hp h1 hl hr c2 c3
      go_enter Try.func73, Try.ntmps73
      go_wp2_with (go_at_call 97; refine (HC.out _).mono ?_; rintro e w' ⟨rfl, rfl⟩)
      go_region_held3 (fun W => (W.cell? ⟨g, 7, none⟩ = some (.pointer pl) ∧ W.cell? ⟨g, 8, none⟩ = some (.pointer pr)) ∧ Turn (fun _ => False) w W)
        ((refine HK.out _ ?_; repeat (first | with_reducible exact Turn.refl _ w | with_reducible exact HTC.out | with_reducible exact HTB.out | with_reducible exact HTA.out | with_reducible refine Turn.drew ?_ | with_reducible refine Turn.drewN ?_ _)))
        (first
          | (go_at_call 73; (with_reducible refine (HI.out _ ?_).mono ?_); exact (Turn.refl _ w).drew; rintro e w2 ⟨y, q, hy, rfl, hn, ht⟩; have HTA := Lib.hid ((Turn.refl _ w).drew.trans ht (fun _ _ f => f)); have HNA := Lib.hid hn; have HY := Lib.hid hy; clear hn ht hy)
          | (go_at_call 98; (with_reducible refine (over_any (g := g) (pr := .pointer pr) (HG.out _ ?_) HNA.out (HR.out _ ?_) ?_).mono ?_); exact HTA.out; exact HTA.out; (focus (have := cnt_drop HY.out; omega)); rintro e w3 ⟨q2, rfl, hn2, ht2⟩; have HTB := Lib.hid (HTA.out.trans ht2 (fun _ _ f => f)); have HNB := Lib.hid hn2; clear hn2 ht2)
          | (go_at_call 99; (with_reducible refine (even_any HNB.out ?_).mono ?_); (focus (have := cnt_drop HY.out; omega)); rintro e w4 ⟨z, hz, q3, rfl, hn3, ht3⟩; have HTC := Lib.hid (HTB.out.trans ht3 (fun _ _ f => f)); have HNC := Lib.hid hn3; have HZ := Lib.hid hz; clear hn3 ht3 hz) | fail)
      all_goals go_wp2
      all_goals go_ret
      all_goals exact ⟨z, _, by rw [HZ.out, flat_node, HY.out], rfl, HNC.out, HTC.out⟩
    · by_cases h2 : ltI k0 k = true
      · have hp : dropK ltI (Tr.node l k0 v0 r).flat k = l.flat ++ (k0, v0) :: dropK ltI r.flat k := drop_right (p := (k0, v0)) h2 r.flat l.flat (hu3.tr rises_ltI h2)
        rw [hp]
        have HC : Hid (∀ W, Calls Try.prog 97 #[(.int .i64 k), (.int .i64 k0)] W fun e w' => e = .returned (.int .i64 1) ∧ W = w') := fun W => by have := compare_any k k0 W; rw [ord_gt h2] at this; exact this
        have HI : Hid (∀ W, Turn (fun _ => False) w W → Calls Try.prog 73 #[.pointer pr, (.int .i64 k)] W fun e w' => Has0 W w' e (dropK ltI r.flat k)) := fun W ht => ihr k W _ (HR.out W ht) (by omega) hu2
        clear ihl ihr hu1 hu2 hu3 hp h1 h2 hl hr c2 c3
        go_enter Try.func73, Try.ntmps73
        go_wp2_with (go_at_call 97; refine (HC.out _).mono ?_; rintro e w' ⟨rfl, rfl⟩)
        go_region_held3 (fun W => (W.cell? ⟨g, 7, none⟩ = some (.pointer pl) ∧ W.cell? ⟨g, 8, none⟩ = some (.pointer pr)) ∧ Turn (fun _ => False) w W)
          ((refine HK.out _ ?_; repeat (first | with_reducible exact Turn.refl _ w | with_reducible exact HTC.out | with_reducible exact HTB.out | with_reducible exact HTA.out | with_reducible refine Turn.drew ?_ | with_reducible refine Turn.drewN ?_ _)))
          (first
          | (go_at_call 73; (with_reducible refine (HI.out _ ?_).mono ?_); exact (Turn.refl _ w).drew; rintro e w2 ⟨y, q, hy, rfl, hn, ht⟩; have HTA := Lib.hid ((Turn.refl _ w).drew.trans ht (fun _ _ f => f)); have HNA := Lib.hid hn; have HY := Lib.hid hy; clear hn ht hy)
          | (go_at_call 98; (with_reducible refine (over_any (g := g) (pl := .pointer pl) (HG.out _ ?_) (HL.out _ ?_) HNA.out ?_).mono ?_); exact HTA.out; exact HTA.out; (focus (have := cnt_drop HY.out; omega)); rintro e w3 ⟨q2, rfl, hn2, ht2⟩; have HTB := Lib.hid (HTA.out.trans ht2 (fun _ _ f => f)); have HNB := Lib.hid hn2; clear hn2 ht2)
          | (go_at_call 99; (with_reducible refine (even_any HNB.out ?_).mono ?_); (focus (have := cnt_drop HY.out; omega)); rintro e w4 ⟨z, hz, q3, rfl, hn3, ht3⟩; have HTC := Lib.hid (HTB.out.trans ht3 (fun _ _ f => f)); have HNC := Lib.hid hn3; have HZ := Lib.hid hz; clear hn3 ht3 hz) | fail)
        all_goals go_wp2
        all_goals go_ret
        all_goals exact ⟨z, _, by rw [HZ.out, flat_node, HY.out], rfl, HNC.out, HTC.out⟩
      · have he : k0 = k := by
          by_cases e : k0 = k
          · exact e
          · exact absurd (rises_ltI.tot _ _ e (by simpa using h2)) h1
        subst he
        have hp : dropK ltI (Tr.node l k0 v0 r).flat k0 = l.flat ++ r.flat := drop_same rises_ltI (p := (k0, v0)) r.flat l.flat hu3
        rw [hp]
        have HC : Hid (∀ W, Calls Try.prog 97 #[(.int .i64 k0), (.int .i64 k0)] W fun e w' => e = .returned (.int .i64 0) ∧ W = w') := fun W => by have := compare_any k0 k0 W; rw [ord_eq] at this; exact this
        clear hu1 hu3 hp h1 h2 ihl
        cases l with
        | nil =>
          have e : (Value.pointer pl) = .pointer none := hl
          cases e
          clear ihr hu2 hl hr
          go_enter Try.func73, Try.ntmps73
          go_wp2_with (go_at_call 97; refine (HC.out _).mono ?_; rintro e w' ⟨rfl, rfl⟩)
          go_ret
          exact ⟨r, pr, rfl, rfl, HR.out _ (Turn.refl _ w), Turn.refl _ w⟩
        | node a k2 v2 b =>
          cases r with
          | nil =>
            have e : (Value.pointer pr) = .pointer none := hr
            cases e
            obtain ⟨u, pa, pb, hpl, -, -, -⟩ := nd_node hl
            cases hpl
            clear ihr hu2 hl hr
            go_enter Try.func73, Try.ntmps73
            go_wp2_with (go_at_call 97; refine (HC.out _).mono ?_; rintro e w' ⟨rfl, rfl⟩)
            go_ret
            exact ⟨.node a k2 v2 b, _, by show _ = _ ++ []; rw [List.append_nil], rfl, HL.out _ (Turn.refl _ w), Turn.refl _ w⟩
          | node c k3 v3 d =>
            obtain ⟨u, pa, pb, hpl, -, -, -⟩ := nd_node hl
            cases hpl
            obtain ⟨t, pc, pd, hpr, -, -, -⟩ := nd_node hr
            cases hpr
            have HLS : Hid (Calls Try.prog 100 #[.pointer (some ⟨t, 0, none⟩)] w fun e w' => (∃ u, e = .returned u ∧ Least w (.node c k3 v3 d) u) ∧ w = w') := least_any hr
            have HI : Hid (∀ k W, Turn (fun _ => False) w W → Calls Try.prog 73 #[.pointer (some ⟨t, 0, none⟩), (.int .i64 k)] W fun e w' => Has0 W w' e (dropK ltI (Tr.node c k3 v3 d).flat k)) := fun k W ht => ihr k W _ (HR.out W ht) (by omega) hu2
            clear ihr hu2 hl hr
            obtain ⟨x1, hx1⟩ : ∃ x, x = Tr.node a k2 v2 b := ⟨_, rfl⟩
            obtain ⟨x2, hx2⟩ : ∃ x, x = Tr.node c k3 v3 d := ⟨_, rfl⟩
            rw [← hx1] at HL hs
            rw [← hx2] at HR HI HLS hs
            rw [← hx1, ← hx2]
            clear hx1 hx2 HG
            go_enter Try.func73, Try.ntmps73
            go_wp2_with (first
              | (go_at_call 97; refine (HC.out _).mono ?_; rintro e w' ⟨rfl, rfl⟩)
              | (go_at_call 100; refine HLS.out.mono ?_; rintro e w' ⟨⟨_, rfl, s, ks, vs, ps, pt, n, rest, rfl, hone, hflat⟩, rfl⟩; have HS := keep1 hone; have HF := Lib.hid hflat; clear hone hflat)
              | fail)
            have HK2 : Hid (∀ W, Turn (fun _ => False) w W → (W.cell? ⟨g, 7, none⟩ = some (.pointer (some ⟨u, 0, none⟩)) ∧ W.cell? ⟨g, 8, none⟩ = some (.pointer (some ⟨t, 0, none⟩)) ∧ W.cell? ⟨s, 0, none⟩ = some (.int .i64 ks)) ∧ Turn (fun _ => False) w W) :=
              fun W ht => ⟨⟨(HK.out W ht).1.1, (HK.out W ht).1.2, (HS.out W ht).cells.1⟩, ht⟩
            go_region_held3 (fun W => (W.cell? ⟨g, 7, none⟩ = some (.pointer (some ⟨u, 0, none⟩)) ∧ W.cell? ⟨g, 8, none⟩ = some (.pointer (some ⟨t, 0, none⟩)) ∧ W.cell? ⟨s, 0, none⟩ = some (.int .i64 ks)) ∧ Turn (fun _ => False) w W)
              ((refine HK2.out _ ?_; repeat (first | with_reducible exact Turn.refl _ w | with_reducible exact HTC.out | with_reducible exact HTB.out | with_reducible exact HTA.out | with_reducible refine Turn.drew ?_ | with_reducible refine Turn.drewN ?_ _)))
              (first
                | (go_at_call 73; (with_reducible refine (HI.out ks _ ?_).mono ?_); exact (Turn.refl _ w).drew; rintro e w2 ⟨y, q, hy, rfl, hn, ht⟩; have HTA := Lib.hid ((Turn.refl _ w).drew.trans ht (fun _ _ f => f)); have HNA := Lib.hid hn; have HY := Lib.hid hy; clear hn ht hy)
                | (go_at_call 98; (with_reducible refine (over_any (g := s) (pl := .pointer (some ⟨u, 0, none⟩)) (HS.out _ ?_) (HL.out _ ?_) HNA.out ?_).mono ?_); exact HTA.out; exact HTA.out; (focus (have := cnt_drop HY.out; omega)); rintro e w3 ⟨q2, rfl, hn2, ht2⟩; have HTB := Lib.hid (HTA.out.trans ht2 (fun _ _ f => f)); have HNB := Lib.hid hn2; clear hn2 ht2)
                | (go_at_call 99; (with_reducible refine (even_any HNB.out ?_).mono ?_); (focus (have := cnt_drop HY.out; omega)); rintro e w4 ⟨z, hz, q3, rfl, hn3, ht3⟩; have HTC := Lib.hid (HTB.out.trans ht3 (fun _ _ f => f)); have HNC := Lib.hid hn3; have HZ := Lib.hid hz; clear hn3 ht3 hz) | fail)
            all_goals go_wp2
            all_goals go_ret
            all_goals exact ⟨z, _, by rw [HZ.out, flat_node, HY.out, HF.out, drop_first rises_ltI (ks, vs)], rfl, HNC.out, HTC.out⟩

end Go.Proofs.Ytgbphkbbedkepaa.ome
