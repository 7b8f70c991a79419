/-
  Texts laid one behind the other: Ta Aj Al Am.
-/
import Derived.Test.YticglepkbihldaaGreatJocak
import Derived.Test.YticglepkbihldaaGreatJocaf
import Derived.Test.YticglepkbihldaaGreatJocag
import Derived.Laws.Cover1
import Derived.Test.YticglepkbihldaaGreatJocae
import Derived.Test.YticglepkbihldaaGreatJocah
import Derived.Laws.ResultCell

/-
  Stage 11, plain: lists of rows whose keys never fall; two of them laid into one; each key once; a map of cells.
-/
namespace Go.Proofs.YticglepkbihldaaGreat
open Go.RowKit

/-- Rows whose keys never fall. -/
def NoFall (l : List R11) : Prop := l.Pairwise fun a b => keyLt b.k a.k = false
/-- Two such lists as one; of one key those of the first come first. -/
def bothL : List R11 → List R11 → List R11
  | [], b => b
  | x :: a, [] => x :: a
  | x :: a, y :: b => if keyLt y.k x.k then y :: bothL (x :: a) b else x :: bothL a (y :: b)
termination_by a b => a.length + b.length
theorem both_nil (b : List R11) : bothL [] b = b := by unfold bothL; rfl
theorem both_end (a : List R11) : bothL a [] = a := by cases a <;> (unfold bothL; rfl)
theorem both_lt {x y : R11} {a b : List R11} (h : keyLt y.k x.k = true) : bothL (x :: a) (y :: b) = y :: bothL (x :: a) b := by
  rw [bothL, if_pos h]
theorem both_ge {x y : R11} {a b : List R11} (h : keyLt y.k x.k = false) : bothL (x :: a) (y :: b) = x :: bothL a (y :: b) := by
  rw [bothL, if_neg (by rw [h]; simp)]
theorem both_mem : ∀ (a b : List R11) {r : R11}, r ∈ bothL a b → r ∈ a ∨ r ∈ b
  | [], b, r, h => by rw [both_nil] at h; exact .inr h
  | x :: a, [], r, h => by rw [both_end] at h; exact .inl h
  | x :: a, y :: b, r, h => by
    cases hc : keyLt y.k x.k with
    | true =>
      rw [both_lt hc] at h
      rcases List.mem_cons.1 h with rfl | h
      · exact .inr (List.mem_cons_self ..)
      · exact (both_mem (x :: a) b h).imp id (List.mem_cons_of_mem _)
    | false =>
      rw [both_ge hc] at h
      rcases List.mem_cons.1 h with rfl | h
      · exact .inl (List.mem_cons_self ..)
      · exact (both_mem a (y :: b) h).imp (List.mem_cons_of_mem _) id
termination_by a b => a.length + b.length
theorem both_len : ∀ (a b : List R11), (bothL a b).length = a.length + b.length
  | [], b => by rw [both_nil]; simp
  | x :: a, [] => by rw [both_end]; simp
  | x :: a, y :: b => by
    cases hc : keyLt y.k x.k with
    | true =>
      rw [both_lt hc, List.length_cons, both_len (x :: a) b]
      simp only [List.length_cons]; omega
    | false =>
      rw [both_ge hc, List.length_cons, both_len a (y :: b)]
      simp only [List.length_cons]; omega
termination_by a b => a.length + b.length
theorem ge_tr {a b c : K9} (h : keyLt b a = false) (g : keyLt c b = false) : keyLt c a = false := by
  cases e : keyLt c a with
  | false => rfl
  | true =>
    by_cases ab : b = a
    · rw [ab, e] at g; cases g
    · rw [key_tr e (rises_key.tot _ _ ab h)] at g; cases g
theorem both_nofall : ∀ (a b : List R11), NoFall a → NoFall b → NoFall (bothL a b)
  | [], b, _, hb => by rw [both_nil]; exact hb
  | x :: a, [], ha, _ => by rw [both_end]; exact ha
  | x :: a, y :: b, ha, hb => by
    obtain ⟨a1, a2⟩ := List.pairwise_cons.1 ha
    obtain ⟨b1, b2⟩ := List.pairwise_cons.1 hb
    cases hc : keyLt y.k x.k with
    | true =>
      rw [both_lt hc]
      refine List.pairwise_cons.2 ⟨fun r hr => ?_, both_nofall (x :: a) b ha b2⟩
      have hxy : keyLt x.k y.k = false := by
        cases e : keyLt x.k y.k with
        | false => rfl
        | true => have := key_tr hc e; rw [key_irr] at this; cases this
      rcases both_mem (x :: a) b hr with hr | hr
      · rcases List.mem_cons.1 hr with rfl | hr
        · exact hxy
        · exact ge_tr hxy (a1 r hr)
      · exact b1 r hr
    | false =>
      rw [both_ge hc]
      refine List.pairwise_cons.2 ⟨fun r hr => ?_, both_nofall a (y :: b) a2 hb⟩
      rcases both_mem a (y :: b) hr with hr | hr
      · exact a1 r hr
      · rcases List.mem_cons.1 hr with rfl | hr
        · exact hc
        · exact ge_tr hc (b1 r hr)
termination_by a b => a.length + b.length
theorem cells_above {k : K9} : ∀ {l : List R11}, (∀ r ∈ l, keyLt k r.k = true) → cellsOf k l = []
  | [], _ => rfl
  | r :: t, h => by
    show (if r.k = k then _ else cellsOf k t) = []
    rw [if_neg (fun e => by have h1 := h r (List.mem_cons_self ..); rw [e, key_irr] at h1; cases h1)]
    exact cells_above (fun y hy => h y (List.mem_cons_of_mem _ hy))
theorem cells_cons (k : K9) (r : R11) (t : List R11) : cellsOf k (r :: t) = (if r.k = k then [r.c] else []) ++ cellsOf k t := by
  show (if r.k = k then r.c :: cellsOf k t else cellsOf k t) = _
  split <;> rfl
theorem both_cells (k : K9) : ∀ (a b : List R11), NoFall a → cellsOf k (bothL a b) = cellsOf k a ++ cellsOf k b
  | [], b, _ => by rw [both_nil]; rfl
  | x :: a, [], _ => by rw [both_end]; simp [cellsOf]
  | x :: a, y :: b, ha => by
    obtain ⟨a1, a2⟩ := List.pairwise_cons.1 ha
    cases hc : keyLt y.k x.k with
    | true =>
      rw [both_lt hc, cells_cons, both_cells k (x :: a) b ha, cells_cons k y b]
      by_cases e : y.k = k
      · rw [cells_above (k := k) (l := x :: a) (fun r hr => by
          rw [← e]
          rcases List.mem_cons.1 hr with rfl | hr
          · exact hc
          · have h1 := a1 r hr
            by_cases e2 : x.k = r.k
            · rw [← e2]; exact hc
            · exact key_tr hc (rises_key.tot _ _ (Ne.symm e2) h1))]
        rfl
      · rw [if_neg e]; rfl
    | false =>
      rw [both_ge hc, cells_cons, both_cells k a (y :: b) a2, cells_cons k x a, List.append_assoc]
termination_by a b => a.length + b.length
theorem rise_nofall {l : List R11} (h : RiseR l) : NoFall l := h.imp fun {a b} hab => by
  cases e : keyLt b.k a.k with
  | false => rfl
  | true => have := key_tr hab e; rw [key_irr] at this; cases this
/-- Rows with the same cells, key by key, come to the same. -/
theorem puts_cells {l m : List R11} (h : ∀ k, cellsOf k l = cellsOf k m) : putsR [] l = putsR [] m := by
  by_cases hk : ∀ k, moreO none (cellsOf k m) ≠ none
  · obtain ⟨r, e1, e2, e3⟩ := puts_some (l := m) (acc := []) List.Pairwise.nil hk
    rw [e1]
    exact puts_is e2 fun k => by rw [h k]; exact e3 k
  · obtain ⟨k, e⟩ : ∃ k, moreO none (cellsOf k m) = none := Classical.byContradiction fun hn => hk fun k e => hn ⟨k, e⟩
    rw [puts_not e, puts_not (k := k) (by rw [h k]; exact e)]
/-- What lists of rows laid into one come to. -/
structure TogR (ls : List (List R11)) (rows : List R11) : Prop where
  nofall : NoFall rows
  cells : ∀ k, cellsOf k rows = cellsOf k ls.flatten
  len : rows.length = ls.flatten.length
  mem : ∀ r ∈ rows, r ∈ ls.flatten
theorem TogR.none : TogR [] [] := ⟨List.Pairwise.nil, fun _ => rfl, rfl, fun _ h => by cases h⟩
theorem TogR.one {l : List R11} (h : RiseR l) : TogR [l] l := ⟨rise_nofall h, fun k => by simp, by simp, fun r hr => by simpa using hr⟩
theorem TogR.two {ls ms : List (List R11)} {a b : List R11} (ha : TogR ls a) (hb : TogR ms b) : TogR (ls ++ ms) (bothL a b) :=
  ⟨both_nofall a b ha.nofall hb.nofall, fun k => by rw [both_cells k a b ha.nofall, ha.cells, hb.cells, List.flatten_append, cellsOf_append],
    by rw [both_len, ha.len, hb.len, List.flatten_append, List.length_append],
    fun r hr => by
      rw [List.flatten_append]
      exact List.mem_append.2 ((both_mem a b hr).imp (ha.mem r) (hb.mem r))⟩

/-- A row put behind rows whose last has a key no higher. -/
theorem put_last : ∀ {l : List R11} {x : R11}, (∀ r ∈ l, keyLt r.k x.k = true) → putR x l = some (l ++ [x])
  | [], x, _ => rfl
  | r :: t, x, h => by
    unfold putR
    rw [if_pos (h r (List.mem_cons_self ..)), put_last (fun y hy => h y (List.mem_cons_of_mem _ hy))]
    rfl
theorem put_same11 : ∀ {l : List R11} {r x : R11}, (∀ y ∈ l, keyLt y.k x.k = true) → r.k = x.k → putR x (l ++ [r]) = (mergeC r.c x.c).map fun c => l ++ [⟨x.k, c⟩]
  | [], r, x, _, e => by
    show putR x [r] = _
    unfold putR
    rw [if_neg (by rw [e, key_irr]; simp), if_pos e]
    rfl
  | y :: t, r, x, h, e => by
    show putR x (y :: (t ++ [r])) = _
    unfold putR
    rw [if_pos (h y (List.mem_cons_self ..)), put_same11 (fun z hz => h z (List.mem_cons_of_mem _ hz)) e]
    cases mergeC r.c x.c <;> rfl

/-- Behind the first i of rows: what they come to, whose last has the last one's key. -/
structure OnceR (rows : List R11) (i : Nat) (M : List R11) : Prop where
  puts : putsR [] (rows.take i) = some M
  low : ∀ r ∈ M, ∀ x, rows[i]? = some x → r.k = x.k ∨ keyLt r.k x.k = true
theorem OnceR.start (rows : List R11) : OnceR rows 0 [] := ⟨rfl, fun r h => by cases h⟩
theorem puts_mem : ∀ {l acc m : List R11}, putsR acc l = some m → ∀ r ∈ m, (∃ x ∈ l, r.k = x.k) ∨ ∃ x ∈ acc, r.k = x.k
  | [], acc, m, h, r, hr => by cases h; exact .inr ⟨r, hr, rfl⟩
  | x :: l, acc, m, h, r, hr => by
    unfold putsR at h
    cases hp : putR x acc with
    | none => rw [hp] at h; cases h
    | some a =>
      rw [hp] at h
      rcases puts_mem (l := l) (acc := a) h r hr with ⟨y, hy, e⟩ | ⟨y, hy, e⟩
      · exact .inl ⟨y, List.mem_cons_of_mem _ hy, e⟩
      · have key : ∀ {l a : List R11}, putR x l = some a → ∀ y ∈ a, y.k = x.k ∨ ∃ z ∈ l, y.k = z.k := by
          intro l
          induction l with
          | nil => intro a h y hy; cases h; exact .inl (by rw [List.mem_singleton.1 hy])
          | cons z t ih =>
            intro a h y hy
            unfold putR at h
            split at h
            · cases hq : putR x t with
              | none => rw [hq] at h; cases h
              | some b =>
                rw [hq] at h
                cases h
                rcases List.mem_cons.1 hy with rfl | hy
                · exact .inr ⟨_, List.mem_cons_self .., rfl⟩
                · exact (ih hq y hy).imp id fun ⟨u, hu, e⟩ => ⟨u, List.mem_cons_of_mem _ hu, e⟩
            · split at h
              · cases hq : mergeC z.c x.c with
                | none => rw [hq] at h; cases h
                | some c =>
                  rw [hq] at h
                  cases h
                  rcases List.mem_cons.1 hy with rfl | hy
                  · exact .inl rfl
                  · exact .inr ⟨y, List.mem_cons_of_mem _ hy, rfl⟩
              · cases h
                rcases List.mem_cons.1 hy with rfl | hy
                · exact .inl rfl
                · exact .inr ⟨y, hy, rfl⟩
        rcases key hp y hy with e2 | ⟨z, hz, e2⟩
        · exact .inl ⟨x, List.mem_cons_self .., e.trans e2⟩
        · exact .inr ⟨z, hz, e.trans e2⟩
theorem nofall_at {rows : List R11} (h : NoFall rows) {i j : Nat} {a b : R11} (hij : i < j) (ha : rows[i]? = some a) (hb : rows[j]? = some b) : keyLt b.k a.k = false := by
  obtain ⟨h1, e1⟩ := List.getElem?_eq_some_iff.1 ha
  obtain ⟨h2, e2⟩ := List.getElem?_eq_some_iff.1 hb
  have := List.pairwise_iff_getElem.1 h i j h1 h2 hij
  rw [e1, e2] at this
  exact this
theorem OnceR.of {rows : List R11} (h : NoFall rows) {i : Nat} {M : List R11} (hp : putsR [] (rows.take i) = some M) : OnceR rows i M :=
  ⟨hp, fun r hr x hx => by
    rcases puts_mem hp r hr with ⟨y, hy, e⟩ | ⟨y, hy, e⟩
    · obtain ⟨j, hj⟩ := List.mem_iff_getElem?.1 hy
      rw [List.getElem?_take] at hj
      split at hj
      · have h1 := nofall_at h (by assumption) hj hx
        by_cases e2 : y.k = x.k
        · exact .inl (e.trans e2)
        · exact .inr (by rw [e]; exact rises_key.tot _ _ (Ne.symm e2) h1)
      · cases hj
    · cases hy⟩
theorem puts_take {rows : List R11} {i : Nat} {x : R11} (hx : rows[i]? = some x) : putsR [] (rows.take (i + 1)) = (putsR [] (rows.take i)).bind fun a => putR x a := by
  obtain ⟨hi, e⟩ := List.getElem?_eq_some_iff.1 hx
  rw [List.take_succ_eq_append_getElem hi, e, putsR_append]
  congr 1
  funext a
  show (putR x a).bind _ = _
  cases putR x a <;> rfl
/-- A key that is not the last one's: a new row. -/
theorem once_new {rows : List R11} (hn : NoFall rows) {i : Nat} {M : List R11} {x : R11} (h : OnceR rows i M) (hx : rows[i]? = some x) (hl : ∀ r, M.getLast? = some r → r.k ≠ x.k) : OnceR rows (i + 1) (M ++ [x]) := by
  refine OnceR.of hn ?_
  rw [puts_take hx, h.puts]
  have hr := (puts_rise h.puts).1
  have hall : ∀ r ∈ M, keyLt r.k x.k = true := by
    rcases List.eq_nil_or_concat M with e | ⟨t, z, e⟩
    · subst e; intro r hr; cases hr
    · rw [List.concat_eq_append] at e
      subst e
      have hz : keyLt z.k x.k = true := by
        rcases h.low z (by simp) x hx with e | e
        · exact absurd e (hl z (by simp))
        · exact e
      intro r hr2
      rcases List.mem_append.1 hr2 with h1 | h1
      · exact key_tr ((List.pairwise_append.1 hr).2.2 r h1 z (by simp)) hz
      · rw [List.mem_singleton.1 h1]; exact hz
  exact put_last hall
/-- The last one's key: its cell merged. -/
theorem once_same {rows : List R11} {i : Nat} {t : List R11} {z x : R11} (h : OnceR rows i (t ++ [z])) (hx : rows[i]? = some x) (e : z.k = x.k) : putsR [] (rows.take (i + 1)) = (mergeC z.c x.c).map fun c => t ++ [⟨x.k, c⟩] := by
  rw [puts_take hx, h.puts]
  have hr := (puts_rise h.puts).1
  refine put_same11 (fun y hy => ?_) e
  rw [← e]
  exact (List.pairwise_append.1 hr).2.2 y hy z (by simp)
theorem puts_halt {rows : List R11} {i : Nat} (h : putsR [] (rows.take i) = none) : putsR [] rows = none := by
  rw [← List.take_append_drop i rows, putsR_append, h]
  rfl

/-- What is right stays right. -/
theorem right_merge {a b c : Cl} (ha : rightC a = true) (hb : rightC b = true) (h1 : 1 ≤ a.n) (h2 : 1 ≤ b.n) (h : mergeC a b = some c) : rightC c = true ∧ 1 ≤ c.n := by
  unfold mergeC at h
  rw [if_neg (by omega), if_neg (by omega)] at h
  split at h
  · cases h
    refine ⟨?_, by show 1 ≤ a.n + b.n; omega⟩
    unfold rightC at ha hb ⊢
    rw [if_neg (by omega)] at ha hb
    rw [if_neg (by show ¬ a.n + b.n = 0; omega)]
    simp only [Bool.and_eq_true, decide_eq_true_iff] at ha hb
    have e1 : decide (0 < a.n + b.n) = true := decide_eq_true (by omega)
    have e2 : decide (min a.lo b.lo ≤ max a.hi b.hi) = true := decide_eq_true (by omega)
    have e3 : decide (1 < a.n + b.n) = true := decide_eq_true (by omega)
    simp only [e1, e2, e3, Bool.true_or, Bool.and_true]
  · cases h

/-- All that rows come to is right, if they are. -/
theorem putR_fine {x : R11} (hx : okRow x = true ∧ okC x.c) : ∀ {l m : List R11}, (∀ r ∈ l, okRow r = true ∧ okC r.c) → putR x l = some m → ∀ r ∈ m, okRow r = true ∧ okC r.c
  | [], m, _, h, r, hr => by cases h; rw [List.mem_singleton.1 hr]; exact hx
  | z :: t, m, hl, h, r, hr => by
    unfold putR at h
    split at h
    · cases hq : putR x t with
      | none => rw [hq] at h; cases h
      | some b =>
        rw [hq] at h
        cases h
        rcases List.mem_cons.1 hr with rfl | hr
        · exact hl _ (List.mem_cons_self ..)
        · exact putR_fine hx (fun y hy => hl y (List.mem_cons_of_mem _ hy)) hq r hr
    · split at h
      · cases hq : mergeC z.c x.c with
        | none => rw [hq] at h; cases h
        | some c =>
          rw [hq] at h
          cases h
          rcases List.mem_cons.1 hr with rfl | hr
          · obtain ⟨z1, z2⟩ := hl z (List.mem_cons_self ..)
            unfold okRow at z1 hx ⊢
            rw [Bool.and_eq_true, decide_eq_true_iff] at z1 hx
            have g := right_merge z1.2 hx.1.2 z1.1 hx.1.1 hq
            rw [Bool.and_eq_true, decide_eq_true_iff]
            exact ⟨⟨g.2, g.1⟩, okC_merge z2 hx.2 hq⟩
          · exact hl r (List.mem_cons_of_mem _ hr)
      · cases h
        rcases List.mem_cons.1 hr with rfl | hr
        · exact hx
        · exact hl r hr
theorem puts_fine : ∀ {l acc m : List R11}, (∀ r ∈ l, okRow r = true ∧ okC r.c) → (∀ r ∈ acc, okRow r = true ∧ okC r.c) → putsR acc l = some m → ∀ r ∈ m, okRow r = true ∧ okC r.c
  | [], acc, m, _, ha, h => by cases h; exact ha
  | x :: l, acc, m, hl, ha, h => by
    unfold putsR at h
    cases hp : putR x acc with
    | none => rw [hp] at h; cases h
    | some a =>
      rw [hp] at h
      exact puts_fine (l := l) (fun r hr => hl r (List.mem_cons_of_mem _ hr)) (putR_fine (hl x (List.mem_cons_self ..)) ha hp) h
theorem right_of11 : ∀ {l : List R11}, RiseR l → (∀ r ∈ l, okRow r = true) → rightR l = true
  | [], _, _ => rfl
  | r :: t, h, ho => by
    obtain ⟨h1, h2⟩ := List.pairwise_cons.1 h
    have ih := right_of11 h2 (fun y hy => ho y (List.mem_cons_of_mem _ hy))
    unfold rightR
    rw [ho r (List.mem_cons_self ..), ih]
    cases t with
    | nil => rfl
    | cons s u => simp only [h1 s (List.mem_cons_self ..)]; rfl
theorem putR_len11 : ∀ {l a : List R11} {x : R11}, putR x l = some a → a.length ≤ l.length + 1
  | [], a, x, h => by cases h; simp
  | z :: t, a, x, h => by
    unfold putR at h
    split at h
    · cases hq : putR x t with
      | none => rw [hq] at h; cases h
      | some b =>
        rw [hq] at h
        cases h
        have := putR_len11 hq
        simp only [List.length_cons]; omega
    · split at h
      · cases hq : mergeC z.c x.c with
        | none => rw [hq] at h; cases h
        | some c => rw [hq] at h; cases h; simp
      · cases h; simp
theorem puts_len12 : ∀ {l acc m : List R11}, putsR acc l = some m → m.length ≤ acc.length + l.length
  | [], acc, m, h => by cases h; simp
  | x :: l, acc, m, h => by
    unfold putsR at h
    cases hp : putR x acc with
    | none => rw [hp] at h; cases h
    | some a =>
      rw [hp] at h
      have h1 := putR_len11 hp
      have h2 := puts_len12 (l := l) (acc := a) (m := m) h
      simp only [List.length_cons]
      omega
/-- Rows put one to the other are a segment's. -/
theorem puts_right {l m : List R11} (hl : ∀ r ∈ l, okRow r = true ∧ okC r.c) (h : putsR [] l = some m) (hn : l.length ≤ 20000) : rightR m = true ∧ (∀ r ∈ m, okC r.c) ∧ m.length ≤ 20000 := by
  have ho := puts_fine hl (fun r h => by cases h) h
  refine ⟨right_of11 (puts_rise h).1 fun r hr => (ho r hr).1, fun r hr => (ho r hr).2, ?_⟩
  have := puts_len12 h
  simp at this
  omega

end Go.Proofs.YticglepkbihldaaGreat

/-
  Stage 12, plain: rows read; there and back, whole; frames.
-/
namespace Go.Proofs.YticglepkbihldaaGreat
open Go.RowKit

theorem plcR_fault (T : Nat → List (List UInt8)) (k0 : K9) (s : St12) (bad : Bool) : ∀ N, (plcR T k0 s bad N).2.1.2 = 0 → s.2 = 0 ∧ (plcR T k0 s bad N).2.1.1.length ≤ s.1.length
  | 0, h => ⟨h, Nat.le_refl _⟩
  | N + 1, h => by
    obtain ⟨h1, h2⟩ := gcount_there (most := 65535) (s := (plcR T k0 s bad N).2.1) h
    obtain ⟨g1, g2⟩ := plcR_fault T k0 s bad N h1
    refine ⟨g1, ?_⟩
    have := congrArg List.length h2
    rw [List.length_append] at this
    show (gCount' 65535 (plcR T k0 s bad N).2.1).1.length ≤ _
    omega
/-- A row without a fault takes bytes. -/
theorem rowR_less {T : Nat → List (List UInt8)} {N h : Nat} {s : St12} {bad : Bool} (hf : (st4 (rowR T N h (gNum' s) bad).2.1).2 = 0) : s.2 = 0 ∧ (st4 (rowR T N h (gNum' s) bad).2.1).1.length + 1 ≤ s.1.length := by
  obtain ⟨h1, e1⟩ := st4_there hf
  obtain ⟨h2, e2⟩ := plcR_fault _ _ _ _ _ h1
  obtain ⟨h3, e3⟩ := gnum_there h2
  refine ⟨h3, ?_⟩
  have := congrArg List.length e3
  rw [List.length_append] at this
  unfold rowR at *
  omega
theorem gtext_less {s : St12} (h : (gText' 16 s).2 = 0) : s.2 = 0 ∧ (gText' 16 s).1.length + 1 ≤ s.1.length := by
  obtain ⟨h1, h2, _⟩ := gtext_there h
  refine ⟨h1, ?_⟩
  have := congrArg List.length h2
  have := enc_pos (gText 16 s).length
  unfold tB at *
  simp only [List.length_append] at *
  omega
theorem hourN_is {h : Nat} {s : St12} (hh : (hourN h s : Int) ≤ 16777216) : hourN h s = h + gNum s := by
  unfold hourN at *
  omega
theorem rowsB_T {T T' : Nat → List (List UInt8)} {N : Nat} (h : ∀ d, d < N → T d = T' d) : ∀ (last : Int) (l : List R11), rowsB T N last l = rowsB T' N last l
  | _, [] => rfl
  | last, r :: l => by
    have hp : ∀ M, M ≤ N → placesB T r.k M = placesB T' r.k M := by
      intro M
      induction M with
      | zero => intro _; rfl
      | succ M ih =>
        intro hM
        show placesB T r.k M ++ enc (idxG (r.k.dim M) (T M)) = placesB T' r.k M ++ enc (idxG (r.k.dim M) (T' M))
        rw [ih (by omega), h M (by omega)]
    show rowB T N last r ++ rowsB T N r.k.h l = rowB T' N last r ++ rowsB T' N r.k.h l
    unfold rowB
    rw [hp N (Nat.le_refl _), rowsB_T h r.k.h l]
theorem rowsR_there {T : Nat → List (List UInt8)} {N : Nat} (hN : N ≤ 4) (hT : ∀ d, d < N → (T d).Pairwise fun x y => Op.bytesLess x y = true) : ∀ (i h : Nat) (s : St12) (out : List R11) (bad : Bool), (rowsR T N i h s out bad).1.2 = 0 →
    s.2 = 0 ∧ ∃ new, (rowsR T N i h s out bad).2.1 = out ++ new ∧ new.length = i ∧ (∀ r ∈ new, okC r.c) ∧ ((rowsR T N i h s out bad).2.2 = false → bad = false ∧ (∀ r ∈ new, ∀ d, d < N → r.k.dim d ∈ T d) ∧
      ((∀ r ∈ new, r.k.h ≤ 16777216 ∧ 1 ≤ r.c.n) → s.1 = rowsB T N (h : Int) new ++ (rowsR T N i h s out bad).1.1))
  | 0, h, s, out, bad, hf => ⟨hf, [], by simp [rowsR], rfl, (fun r hr => by cases hr), fun hb => ⟨hb, (fun r hr => by cases hr), fun _ => rfl⟩⟩
  | i + 1, h, s, out, bad, hf => by
    have e : rowsR T N (i + 1) h s out bad = if (st4 (rowR T N (hourN h s) (gNum' s) bad).2.1).2 ≠ 0 then (st4 (rowR T N (hourN h s) (gNum' s) bad).2.1, [], (rowR T N (hourN h s) (gNum' s) bad).2.2)
      else rowsR T N i (hourN h s) (st4 (rowR T N (hourN h s) (gNum' s) bad).2.1) (out ++ [⟨(rowR T N (hourN h s) (gNum' s) bad).1, cellR (rowR T N (hourN h s) (gNum' s) bad).2.1⟩]) (rowR T N (hourN h s) (gNum' s) bad).2.2 := rfl
    rw [e] at hf ⊢
    by_cases hz : (st4 (rowR T N (hourN h s) (gNum' s) bad).2.1).2 ≠ 0
    · rw [if_pos hz] at hf
      exact absurd hf hz
    · rw [if_neg hz] at hf ⊢
      obtain ⟨h1, new, h2, h3, h4, h5⟩ := rowsR_there hN hT i _ _ _ _ hf
      obtain ⟨g1, g2⟩ := rowR_less h1
      refine ⟨g1, ⟨(rowR T N (hourN h s) (gNum' s) bad).1, cellR (rowR T N (hourN h s) (gNum' s) bad).2.1⟩ :: new, by rw [h2]; simp, by rw [List.length_cons, h3], ?_, fun hb => ?_⟩
      · intro r hr
        rcases List.mem_cons.1 hr with rfl | hr
        · exact cellR_ok _
        · exact h4 r hr
      · obtain ⟨b1, b2, b3⟩ := h5 hb
        obtain ⟨c1, _⟩ := st4_there h1
        obtain ⟨p1, p2, p3, p4⟩ := plcR_there ⟨(hourN h s : Int), [], [], [], []⟩ (gNum' s) bad N hN hT c1 b1
        refine ⟨p2, ?_, fun hall => ?_⟩
        · intro r hr
          rcases List.mem_cons.1 hr with rfl | hr
          · exact p4
          · exact b2 r hr
        · obtain ⟨a1, a2⟩ := hall _ (List.mem_cons_self ..)
          have ekh : (rowR T N (hourN h s) (gNum' s) bad).1.h = (hourN h s : Int) := plcR_h T _ _ _ N
          rw [ekh] at a1
          have eh := hourN_is a1
          obtain ⟨n1, n2⟩ := gnum_there (s := s) p1
          obtain ⟨d1, d2⟩ := cell_there h1 a2
          have e3 := b3 (fun r hr => hall r (List.mem_cons_of_mem _ hr))
          show s.1 = (rowB T N (h : Int) _ ++ rowsB T N (rowR T N (hourN h s) (gNum' s) bad).1.h new) ++ _
          rw [ekh]
          unfold rowB
          rw [ekh, show ((hourN h s : Int) - (h : Int)).toNat = gNum s by omega]
          simp only [List.append_assoc]
          rw [← e3, ← d2]
          have p3' : (gNum' s).1 = placesB T (rowR T N (hourN h s) (gNum' s) bad).1 N ++ (rowR T N (hourN h s) (gNum' s) bad).2.1.1 := p3
          rw [← p3']
          exact n2
theorem usedN_iff {l : List R11} {T : Nat → List (List UInt8)} : ∀ N, usedN l T N = true ↔ ∀ d, d < N → (dimT l d).length = (T d).length
  | 0 => ⟨fun _ d hd => absurd hd (Nat.not_lt_zero d), fun _ => rfl⟩
  | N + 1 => by
    show (usedN l T N && decide _) = true ↔ _
    rw [Bool.and_eq_true, usedN_iff N, decide_eq_true_iff]
    constructor
    · rintro ⟨h1, h2⟩ d hd
      by_cases e : d = N
      · rw [e]; exact h2
      · exact h1 d (by omega)
    · intro h
      exact ⟨fun d hd => h d (by omega), h N (by omega)⟩
/-- Of two lists that rise, one within the other is no longer. -/
theorem within_len12 : ∀ {m l : List (List UInt8)}, (l.Pairwise fun x y => Op.bytesLess x y = true) → (m.Pairwise fun x y => Op.bytesLess x y = true) → (∀ x ∈ l, x ∈ m) → l.length ≤ m.length
  | _, [], _, _, _ => Nat.zero_le _
  | [], x :: l, _, _, h => by have := h x (List.mem_cons_self ..); cases this
  | y :: m, x :: l, hl, hm, h => by
    rw [List.pairwise_cons] at hl hm
    have hrest : ∀ z ∈ l, z ∈ m := fun z hz => by
      rcases List.mem_cons.1 (h z (List.mem_cons_of_mem _ hz)) with e | e
      · exfalso
        subst e
        have h1 := hl.1 z hz
        rcases List.mem_cons.1 (h x (List.mem_cons_self ..)) with e2 | e2
        · rw [e2, less_irr] at h1; cases h1
        · have h3 := less_tr _ _ _ (hm.1 x e2) h1
          rw [less_irr] at h3; cases h3
      · exact e
    have := within_len12 hl.2 hm.2 hrest
    simp only [List.length_cons]
    omega
theorem within_same12 : ∀ {m l : List (List UInt8)}, (l.Pairwise fun x y => Op.bytesLess x y = true) → (m.Pairwise fun x y => Op.bytesLess x y = true) → (∀ x ∈ l, x ∈ m) → l.length = m.length → l = m
  | [], l, _, _, _, e => List.eq_nil_of_length_eq_zero e
  | y :: m, [], _, _, _, e => by cases e
  | y :: m, x :: l, hl, hm, h, e => by
    have hl0 := hl
    rw [List.pairwise_cons] at hl hm
    have hxy : x = y := by
      rcases List.mem_cons.1 (h x (List.mem_cons_self ..)) with e2 | e2
      · exact e2
      · exfalso
        have hin : ∀ z ∈ x :: l, z ∈ m := fun z hz => by
          rcases List.mem_cons.1 hz with rfl | hz2
          · exact e2
          · rcases List.mem_cons.1 (h z hz) with e3 | e3
            · subst e3
              have h3 := less_tr _ _ _ (hm.1 x e2) (hl.1 z hz2)
              rw [less_irr] at h3; cases h3
            · exact e3
        have := within_len12 hl0 hm.2 hin
        simp only [List.length_cons] at e this
        omega
    subst hxy
    have hrest : ∀ z ∈ l, z ∈ m := fun z hz => by
      rcases List.mem_cons.1 (h z (List.mem_cons_of_mem _ hz)) with e3 | e3
      · subst e3
        have h1 := hl.1 z hz
        rw [less_irr] at h1; cases h1
      · exact e3
    rw [within_same12 hl.2 hm.2 hrest (by simpa using e)]
/-- What is decoded has just those bytes. -/
theorem decF_there {p : List UInt8} {N : Nat} {l : List R11} (hN : N ≤ 4) (h : decF p N = (0, l)) : payB l N = p ∧ rightR l = true ∧ fitL l N = 0 ∧ ∀ r ∈ l, okC r.c := by
  unfold decF at h
  by_cases h1 : (rows0 p N).1.2 ≠ 0
  · rw [if_pos h1] at h
    have := congrArg Prod.fst h
    simp only at this
    exact absurd (by omega) h1
  · rw [if_neg h1] at h
    by_cases h2 : (rows0 p N).2.2 = true ∨ 0 < (rows0 p N).1.1.length
    · rw [if_pos h2] at h
      cases congrArg Prod.fst h
    · rw [if_neg h2] at h
      by_cases h3 : rightR (rows0 p N).2.1 = false
      · rw [if_pos h3] at h
        cases congrArg Prod.fst h
      · rw [if_neg h3] at h
        by_cases h4 : fitL (rows0 p N).2.1 N ≠ 0 ∨ usedN (rows0 p N).2.1 (dims0 p N).2.1 N = false
        · rw [if_pos h4] at h
          cases congrArg Prod.fst h
        · rw [if_neg h4] at h
          have el : (rows0 p N).2.1 = l := congrArg Prod.snd h
          rw [el] at h3 h4
          rw [not_or] at h2 h4
          have hf : fitL l N = 0 := by have := h4.1; omega
          have hu : usedN l (dims0 p N).2.1 N = true := by simpa using h4.2
          have hr : rightR l = true := by simpa using h3
          have hb : (rows0 p N).2.2 = false := by simpa using h2.1
          have hz : (rows0 p N).1.1 = [] := List.eq_nil_of_length_eq_zero (by have := h2.2; omega)
          have h1' : (rows0 p N).1.2 = 0 := by omega
          -- the dimensions
          have hdz : (gCount' 1048576 (dims0 p N).1).2 = 0 ∧ (dims0 p N).2.2 = false ∧ ∀ hT : (∀ d, d < N → ((dims0 p N).2.1 d).Pairwise fun x y => Op.bytesLess x y = true), (∀ r ∈ l, ∀ d, d < N → r.k.dim d ∈ (dims0 p N).2.1 d) ∧ l.length = gCount 1048576 (dims0 p N).1 ∧ (∀ r ∈ l, okC r.c) ∧ ((∀ r ∈ l, r.k.h ≤ 16777216 ∧ 1 ≤ r.c.n) → (gCount' 1048576 (dims0 p N).1).1 = rowsB (dims0 p N).2.1 N 0 l) := by
            have key : ∀ (T : Nat → List (List UInt8)) (i h : Nat) (s : St12) (out : List R11) (bad : Bool), (rowsR T N i h s out bad).1.2 = 0 → (rowsR T N i h s out bad).2.2 = false → s.2 = 0 ∧ bad = false := by
              intro T i
              induction i with
              | zero => intro h s out bad g1 g2; exact ⟨g1, g2⟩
              | succ i ih =>
                intro h s out bad g1 g2
                have e : rowsR T N (i + 1) h s out bad = if (st4 (rowR T N (hourN h s) (gNum' s) bad).2.1).2 ≠ 0 then (st4 (rowR T N (hourN h s) (gNum' s) bad).2.1, [], (rowR T N (hourN h s) (gNum' s) bad).2.2)
                  else rowsR T N i (hourN h s) (st4 (rowR T N (hourN h s) (gNum' s) bad).2.1) (out ++ [⟨(rowR T N (hourN h s) (gNum' s) bad).1, cellR (rowR T N (hourN h s) (gNum' s) bad).2.1⟩]) (rowR T N (hourN h s) (gNum' s) bad).2.2 := rfl
                rw [e] at g1 g2
                by_cases hz : (st4 (rowR T N (hourN h s) (gNum' s) bad).2.1).2 ≠ 0
                · rw [if_pos hz] at g1
                  exact absurd g1 hz
                · rw [if_neg hz] at g1 g2
                  obtain ⟨k1, k2⟩ := ih _ _ _ _ g1 g2
                  refine ⟨(rowR_less k1).1, ?_⟩
                  have kb : ∀ M, (plcR T ⟨(hourN h s : Int), [], [], [], []⟩ (gNum' s) bad M).2.2 = false → bad = false := by
                    intro M
                    induction M with
                    | zero => exact id
                    | succ M ihm =>
                      intro hm
                      have hm' : ((plcR T ⟨(hourN h s : Int), [], [], [], []⟩ (gNum' s) bad M).2.2 || ((T M)[gCount 65535 (plcR T ⟨(hourN h s : Int), [], [], [], []⟩ (gNum' s) bad M).2.1]?).isNone) = false := hm
                      rw [Bool.or_eq_false_iff] at hm'
                      exact ihm hm'.1
                  exact kb N k2
            obtain ⟨k1, k2⟩ := key _ _ _ _ _ _ h1' hb
            refine ⟨k1, k2, fun hT => ?_⟩
            obtain ⟨_, new, e2, e3, e4, e5⟩ := rowsR_there hN hT _ _ _ _ _ h1'
            have e2' : l = new := by
              have : (rows0 p N).2.1 = [] ++ new := e2
              rw [el] at this
              exact this
            subst e2'
            obtain ⟨_, b2, b3⟩ := e5 hb
            refine ⟨b2, e3, e4, fun hall => ?_⟩
            have := b3 hall
            rw [this]
            have hz' : (rowsR (dims0 p N).2.1 N (gCount 1048576 (dims0 p N).1) 0 (gCount' 1048576 (dims0 p N).1) [] (dims0 p N).2.2).1.1 = [] := hz
            rw [hz', List.append_nil]
            rfl
          obtain ⟨k1, k2, k3⟩ := hdz
          obtain ⟨c1, c2⟩ := gcount_there k1
          obtain ⟨d1, d2, d3, d4⟩ := dimsD_there N _ _ c1 k2
          obtain ⟨m1, m2, m3, m4⟩ := k3 d4
          obtain ⟨n1, n2⟩ := gnum_there (s := (p, 0)) d1
          obtain ⟨f1, f2⟩ := fitL_ok.1 hf
          obtain ⟨hrise, hrow⟩ := rightR_spec hr
          have hT : ∀ d, d < N → dimT l d = (dims0 p N).2.1 d := fun d hd => within_same12 (dimT_up l d) (d4 d hd) (fun x hx => by
            obtain ⟨r, hr, rfl⟩ := (dimT_mem l d x).1 hx
            exact m1 r hr d hd) ((usedN_iff N).1 hu d hd)
          refine ⟨?_, hr, hf, m3⟩
          have hm4 := m4 (fun r hr => by
            have h6 := (chk_fit (f2 r hr)).h1
            have h7 := hrow r hr
            unfold okRow at h7
            rw [Bool.and_eq_true, decide_eq_true_iff] at h7
            exact ⟨h6, h7.1⟩)
          have hgn : gNum (p, 0) = N := by
            have : (!decide (gNum (p, 0) = N)) = false := d2
            simpa using this
          unfold payB
          rw [dimsB_same N hT, rowsB_T hT, m2, ← hm4, ← c2]
          have d3' : (gNum' (p, 0)).1 = dimsB (dims0 p N).2.1 N ++ (dims0 p N).1.1 := d3
          rw [← d3', ← hgn]
          exact n2.symm

/-- Frames. -/
theorem takes_whole (p : List UInt8) (h : p.length ≤ 4194304) : takes (fr p) = (p, (fr p).length, 0) := by
  have := takes_fr p [] h
  rw [List.append_nil] at this
  rw [this, fr_len]
theorem takes_short (p : List UInt8) (m : Nat) (h : p.length ≤ 4194304) (hm : m < (fr p).length) : (takes ((fr p).take m)).2.2 = 3 := by
  rw [fr_len] at hm
  by_cases hc : m < (enc p.length).length
  · have e : (fr p).take m = (enc p.length).take m := by
      unfold fr
      rw [List.take_append_of_le_length (by omega)]
    have e1 : (rdCount 4194304 ((enc p.length).take m)).2.1 = 3 := by
      unfold rdCount
      rw [rdNum_cut _ _ hc]
      rfl
    unfold takes
    rw [e, if_pos (by rw [e1]; omega)]
    exact e1
  · have e : (fr p).take m = enc p.length ++ (p ++ tl (more 0 p)).take (m - (enc p.length).length) := by
      unfold fr
      rw [List.take_append, List.take_of_length_le (by omega)]
    have e1 := rdCount_fr p.length ((p ++ tl (more 0 p)).take (m - (enc p.length).length)) h
    have e2 : (p ++ tl (more 0 p)).length = p.length + 4 := by rw [List.length_append, tl_len]
    unfold takes
    rw [e, e1]
    show (if (0 : Nat) ≠ 0 then _ else if _ < (enc p.length).length + p.length + 4 then _ else _ : List UInt8 × Nat × Nat).2.2 = 3
    unfold sz at hm
    rw [if_neg (by omega), if_pos (by rw [List.length_append, List.length_take, e2]; omega)]
theorem gets_exact {x : List UInt8} (h : (gets x).2 = 0) : x = (gets x).1 ++ tl (more 0 (gets x).1) := by
  unfold gets at *
  by_cases h4 : x.length < 4
  · rw [if_pos h4] at h
    cases h
  · rw [if_neg h4] at h ⊢
    split at h
    · rename_i he
      rw [if_pos he]
      rw [beq_iff_eq] at he
      show x = x.take (x.length - 4) ++ tl (more 0 (x.take (x.length - 4)))
      rw [← he, List.take_append_drop]
    · cases h
theorem takes_exact {b : List UInt8} (h : (takes b).2.2 = 0) (hl : ¬ (takes b).2.1 < b.length) : fr (takes b).1 = b := by
  obtain ⟨s1, s2, s3⟩ := takes_sz b h
  unfold takes at h hl ⊢
  by_cases h1 : (rdCount 4194304 b).2.1 ≠ 0
  · rw [if_pos h1] at h
    exact absurd h h1
  · rw [if_neg h1] at h hl ⊢
    by_cases h2 : b.length < (rdCount 4194304 b).2.2 + (rdCount 4194304 b).1 + 4
    · rw [if_pos h2] at h
      cases h
    · rw [if_neg h2] at h hl ⊢
      by_cases h3 : (gets ((b.drop (rdCount 4194304 b).2.2).take ((rdCount 4194304 b).1 + 4))).2 ≠ 0
      · rw [if_pos h3] at h
        exact absurd h h3
      · rw [if_neg h3] at hl ⊢
        have h4 : (gets ((b.drop (rdCount 4194304 b).2.2).take ((rdCount 4194304 b).1 + 4))).2 = 0 := by omega
        have hl' : ¬ (rdCount 4194304 b).2.2 + (rdCount 4194304 b).1 + 4 < b.length := hl
        have hx : (b.drop (rdCount 4194304 b).2.2).take ((rdCount 4194304 b).1 + 4) = b.drop (rdCount 4194304 b).2.2 := List.take_of_length_le (by rw [List.length_drop]; omega)
        have h6 : (rdCount 4194304 b).2.1 = 0 := by omega
        have h7 : (rdNum b).2.1 = 0 ∧ (rdCount 4194304 b).1 = (rdNum b).1 := by
          unfold rdCount at h6 ⊢
          split at h6
          · exact absurd h6 (by assumption)
          · rename_i h8
            rw [if_neg h8]
            split at h6
            · cases h6
            · rename_i h9
              rw [if_neg h9]
              exact ⟨by omega, rfl⟩
        have e1 := gets_exact h4
        have e2 := gets_len _ h4
        rw [hx] at e1 e2
        show fr (gets ((b.drop (rdCount 4194304 b).2.2).take ((rdCount 4194304 b).1 + 4))).1 = b
        rw [hx]
        unfold fr
        rw [← e1]
        have e3 := rdNum_exact12 h7.1
        have e4 := rdCount_at 4194304 b
        rw [e4] at e2 hl' ⊢
        have e5 : (gets (b.drop (rdNum b).2.2)).1.length = (rdNum b).1 := by
          rw [List.length_drop] at e2
          rw [e4] at h2
          omega
        rw [e5]
        exact e3.symm

end Go.Proofs.YticglepkbihldaaGreat

/-
  Stage 12: the program's reader in memory; dimension.
-/
namespace Go.Proofs.YticglepkbihldaaGreat
open Go.RowKit

set_option maxRecDepth 100000

abbrev rcells12 (p : Nat) (D : Nat → Option Addr) (bad : Bool) : Array Value := #[.pointer (some ⟨p, 0, none⟩), .pointer (D 0), .pointer (D 1), .pointer (D 2), .pointer (D 3), .bool bad]
/-- The program's reader: pack's reader in a state, the dictionaries, whether something can't be. -/
structure RX12 (w0 w : World) (p rb : Nat) (s : St12) (D : Nat → Option Addr) (T : Nat → List (List UInt8)) (bad : Bool) : Prop where
  pr : PR w0 p w s
  new : w0.heap.size ≤ rb
  box : Box w rb 111 (rcells12 p D bad)
  dic : ∀ d, d < 4 → DV10 w (.pointer (D d)) (T d)
section
variable {w0 w w' : World} {p rb : Nat} {s s' : St12} {D : Nat → Option Addr} {T : Nat → List (List UInt8)} {bad : Bool}
theorem RX12.turn (h : RX12 w0 w p rb s D T bad) : Turn (fun _ => False) w0 w := h.pr.turn
theorem RX12.later (h : RX12 w0 w p rb s D T bad) (ht : Turn (fun _ => False) w w') : RX12 w0 w' p rb s D T bad :=
  ⟨h.pr.later ht, h.new, h.box.turn ht (fun f => f), fun d hd => (h.dic d hd).later ht⟩
theorem RX12.ne (h : RX12 w0 w p rb s D T bad) : rb ≠ p := fun e => by
  obtain ⟨cs, hc⟩ := h.pr.box
  have hb := h.box
  rw [e] at hb
  exact absurd (box_type12 hb hc).1 (by decide)
theorem RX12.apart (h : RX12 w0 w p rb s D T bad) : Apart12 w (fun g => g = p ∨ g = rb) := fun k t cs e hb => by
  rcases e with e | e
  · subst e
    obtain ⟨cs2, hc⟩ := h.pr.box
    have e2 := (box_type12 hb hc).1
    subst e2
    exact ⟨by decide, by decide, by decide, by decide⟩
  · subst e
    have e2 := (box_type12 hb h.box).1
    subst e2
    exact ⟨by decide, by decide, by decide, by decide⟩
/-- Behind calls and stores on the reader alone (and on what is new). -/
theorem RX12.step (h : RX12 w0 w p rb s D T bad) {b' : Bool} (hp : PR w0 p w' s') (hb : Box w' rb 111 (rcells12 p D b')) (ht : Turn (fun g => g = p ∨ g = rb) w w') : RX12 w0 w' p rb s' D T b' :=
  ⟨hp, h.new, hb, fun d hd => (h.dic d hd).kept ht h.apart⟩
theorem RX12.read (h : RX12 w0 w p rb s D T bad) (hp : PR w0 p w' s') (ht : Turn (fun g => g = p) w w') : RX12 w0 w' p rb s' D T bad :=
  h.step hp (h.box.turn ht h.ne) (ht.mono fun _ _ e => .inl e)
/-- A store into the reader's own box. -/
theorem PR.stored (hp : PR w0 p w s) (h0 : w0.heap.size ≤ rb) {cs : Array Value} (hb : Box w rb 111 cs) (i : Nat) (v : Value) : PR w0 p (w.setCell ⟨rb, i, none⟩ v) s :=
  hp.keep (S := fun g => g = rb) (Turn.setCell (S := fun g => g = rb) (p := ⟨rb, i, none⟩) (Turn.refl _ w) (fun _ => rfl) v) (fun g e => by rw [e]; exact h0) (fun g e => by subst e; exact ⟨_, _, by decide, by decide, hb⟩)
theorem RX12.wrong (h : RX12 w0 w p rb s D T bad) : RX12 w0 (w.setCell ⟨rb, 5, none⟩ (.bool true)) p rb s D T true :=
  h.step (h.pr.stored h.new h.box 5 _) (h.box.set 5 (.bool true)) (Turn.setCell (S := fun g => g = p ∨ g = rb) (p := ⟨rb, 5, none⟩) (Turn.refl _ w) (fun _ => .inr rfl) _)
/-- A row that a call owns, of other things, turned. -/
theorem PR.own {U : Type} {E : El U} {t : TypeId} {x : Value} {L : List U} (hp : PR w0 p w s) (ho : OwE E t w x L) (h1 : t ≠ 151) (h2 : t ≠ 5) (hn : ∀ k, x.ownBlock = some k → w0.heap.size ≤ k) (ht : Turn (fun k => x.ownBlock = some k) w w') : PR w0 p w' s :=
  hp.keep ht hn fun g e => by
    rcases ho.form with ⟨e1, _⟩ | ⟨g', cap, cur, e1, hb, _⟩
    · rw [e1] at e; cases e
    · rw [e1] at e
      simp only [Value.ownBlock, Option.some.injEq] at e
      subst e
      exact ⟨_, _, h1, h2, hb⟩
end

theorem gtext_short (s : St12) : (gText' 16 s).1.length ≤ s.1.length := by
  unfold gText'
  split
  · rw [List.length_drop]; exact Nat.sub_le _ _
  · exact Nat.le_refl _
theorem gcount_short (most : Nat) (s : St12) : (gCount' most s).1.length ≤ s.1.length := by
  unfold gCount'
  split
  · rw [List.length_drop]; exact Nat.sub_le _ _
  · exact Nat.le_refl _
theorem gcount_zero {most : Nat} {s : St12} (h : (gCount' most s).2 ≠ 0) : gCount most s = 0 := by
  unfold gCount gCount' at *
  by_cases hs : s.2 = 0
  · rw [if_pos hs] at h ⊢
    exact rdCount_zero h
  · rw [if_neg hs]
theorem dimR_fault {i : Nat} {s : St12} {out : List (List UInt8)} {bad : Bool} (h : (gText' 16 s).2 ≠ 0) : dimR (i + 1) s out bad = (gText' 16 s, [], bad) := if_pos h
theorem dimR_more {i : Nat} {s : St12} {out : List (List UInt8)} {bad : Bool} (h : (gText' 16 s).2 = 0) : dimR (i + 1) s out bad = dimR i (gText' 16 s) (out ++ [gText 16 s]) (bad || unrise out (gText 16 s)) := if_neg (by omega)
theorem unrise_nil (t : List UInt8) : unrise [] t = false := rfl
theorem unrise_at {out : List (List UInt8)} {i : Nat} {z : List UInt8} (hi : i + 1 = out.length) (hz : out[i]? = some z) (t : List UInt8) : unrise out t = !(Op.bytesLess z t) := by
  unfold unrise
  rw [List.getLast?_eq_getElem?, show out.length - 1 = i by omega, hz]

/-- Behind dimension. -/
def DimA12 (w0 w : World) (p rb : Nat) (s : St12) (D : Nat → Option Addr) (T : Nat → List (List UInt8)) (bad : Bool) (e : Ending) (w' : World) : Prop :=
  ∃ E, e = .returned (.pointer E) ∧ RX12 w0 w' p rb (dimD s bad).1 D T (dimD s bad).2.2 ∧ DV10 w' (.pointer E) (ofT (dimD s bad).2.1) ∧ Turn (fun g => g = p ∨ g = rb) w w'
/-- In the loop. -/
structure DimI12 (w0 w : World) (p rb : Nat) (D : Nat → Option Addr) (x3 : Value) (s : St12) (out : List (List UInt8)) (bad : Bool) (V : World) : Prop where
  pr : PR w0 p V s
  box : Box V rb 111 (rcells12 p D bad)
  own : OwE ET10 9 V x3 out
  new : ∀ k, x3.ownBlock = some k → w.heap.size ≤ k
  turn : Turn (fun g => g = p ∨ g = rb) w V
set_option maxHeartbeats 8000000 in
theorem dimension_any12 (w0 : World) (p rb : Nat) (s : St12) (D : Nat → Option Addr) (T : Nat → List (List UInt8)) (bad : Bool) (w : World) (h : RX12 w0 w p rb s D T bad) (hl : s.1.length ≤ 20000) :
    Calls Tryz.prog 67 #[.pointer (some ⟨rb, 0, none⟩)] w fun e w' => DimA12 w0 w p rb s D T bad e w' := by
  have H := Lib.hid h
  have HC := Lib.hid (pr_count 65536 (by omega) h.pr)
  have hcl := gcount_le 65536 s
  have HNP := Lib.hid h.ne
  have hc0 : w.cell? ⟨rb, 0, none⟩ = some (.pointer (some ⟨p, 0, none⟩)) := h.box.cell 0
  obtain ⟨m, hm⟩ : ∃ m, m = gCount 65536 s := ⟨_, rfl⟩
  obtain ⟨s1, hs1⟩ : ∃ s1, s1 = gCount' 65536 s := ⟨_, rfl⟩
  have HD0 : Hid (dimD s bad = dimR m s1 [] bad) := by show _ = _; rw [hm, hs1]; rfl
  have HK : Hid (s1.1.length ≤ 20000) := by show _ ≤ _; rw [hs1]; exact Nat.le_trans (gcount_short _ _) hl
  rw [← hm, ← hs1] at HC
  rw [← hm] at hcl
  have HW0 : Hid (w0.heap.size ≤ w.heap.size) := h.turn.size
  clear h hl hm hs1
  go_enter Tryz.func67, Tryz.ntmps67
  go_wp2_with fail
  refine HC.out.mono ?_
  rintro e w1 ⟨rfl, h1, t1⟩
  have HI0 : Hid (DimI12 w0 w p rb D (.slice none 0 0) s1 [] bad w1) := ⟨h1, H.out.box.turn t1 HNP.out, OwE.nil _, (fun k e => by simp [Value.ownBlock] at e), t1.mono fun _ _ e => .inl e⟩
  clear h1 t1 HC hc0
  go_wp2_with fail
  go_loopw [3, 11] (fun x3 x11 wr => ∃ (i : Nat) (si : St12) (out : List (List UInt8)) (bi : Bool), x11 = .int .i64 (i : Int) ∧ i ≤ m ∧ out.length = i ∧ i + si.1.length ≤ 20000 ∧ dimR (m - i) si out bi = dimR m s1 [] bad ∧ DimI12 w0 w p rb D x3 si out bi wr) (fun x3 x11 _ => m - (intOf x11).toNat)
  case atStart => exact ⟨0, s1, [], bad, rfl, Nat.zero_le _, rfl, by have := HK.out; omega, rfl, HI0.out⟩
  case round =>
    obtain ⟨i, si, out, bi, rfl, hi, ho, hk, hd, hI⟩ := hrel
    have HI := Lib.hid hI; have HD := Lib.hid hd; have HKI := Lib.hid hk
    obtain ⟨A, c, hv⟩ := hI.own.shape
    rw [ho] at hv
    subst hv
    have HOL := Lib.hid ho
    have hc0 : wr.cell? ⟨rb, 0, none⟩ = some (.pointer (some ⟨p, 0, none⟩)) := HI.out.box.cell 0
    clear hI hd hk ho
    by_cases hlt : i < m
    · have hil : (i : Int) < m := by omega
      have HT := Lib.hid (pr_text 16 (by omega) HI.out.pr)
      go_wp2_with fail
      refine HT.out.mono ?_
      rintro e w2 ⟨rfl, h2, t2⟩
      have HP2 := Lib.hid h2; have HT2 := Lib.hid t2
      have HB2 := Lib.hid (HI.out.box.turn t2 HNP.out)
      have hc0 : w2.cell? ⟨rb, 0, none⟩ = some (.pointer (some ⟨p, 0, none⟩)) := HB2.out.cell 0
      obtain ⟨t, ht⟩ : ∃ t, t = gText 16 si := ⟨_, rfl⟩
      obtain ⟨s2, hs2⟩ : ∃ s2, s2 = gText' 16 si := ⟨_, rfl⟩
      have HS2 := Lib.hid hs2; have HTT := Lib.hid ht
      rw [← ht]
      rw [← hs2] at HP2
      have HF := Lib.hid (pr_fault HP2.out)
      clear h2 t2 HT ht hs2
      go_wp2_with fail
      refine HF.out.mono ?_
      rintro e w2' ⟨rfl, hw⟩
      subst hw
      clear HF
      by_cases hz : s2.2 = 0
      · rw [hz]
        have HZ := Lib.hid hz
        have HMO : Hid (dimR (m - (i + 1)) s2 (out ++ [t]) (bi || unrise out t) = dimR m s1 [] bad) := by
          show _ = _
          rw [← HD.out, show m - i = m - (i + 1) + 1 by omega, dimR_more (by rw [← HS2.out]; exact hz), ← HS2.out, ← HTT.out]
        have HKN : Hid (i + 1 + s2.1.length ≤ 20000) := by
          show _ ≤ _
          have := (gtext_less (s := si) (by rw [← HS2.out]; exact hz)).2
          rw [← HS2.out] at this
          have := HKI.out
          omega
        have HOW : Hid (OwE ET10 9 w2 (.slice A i c) out) := HI.out.own.turn HT2.out (fun k hk e => by
          subst e
          obtain ⟨cs, hc⟩ := HI.out.pr.box
          exact HI.out.own.not_box hc (by decide) hk)
        have HTW : Hid (Turn (fun g => g = p ∨ g = rb) w w2) := HI.out.turn.trans HT2.out (fun _ _ e => .inl e)
        clear hz
        -- behind the test: append
        have HAPP : Hid (∀ (b' : Bool) (V : World), b' = (bi || unrise out t) → PR w0 p V s2 → Box V rb 111 (rcells12 p D b') → OwE ET10 9 V (.slice A i c) out → Turn (fun g => g = p ∨ g = rb) w V → ∀ (A3 : Option Addr) (n3 c3 : Nat) (W : World), OwE ET10 9 W (.slice A3 n3 c3) (out ++ [t]) → Turn (fun k => (Value.slice A i c).ownBlock = some k) (V.alloc (.cells #[sv10 t] 9)) W → ((Value.slice A3 n3 c3).ownBlock = (Value.slice A i c).ownBlock ∨ (Value.slice A3 n3 c3).ownBlock = some (V.alloc (.cells #[sv10 t] 9)).heap.size) →
            ∃ (j : Nat) (sj : St12) (oj : List (List UInt8)) (bj : Bool), (Value.int .i64 ((i : Int) + 1)) = .int .i64 (j : Int) ∧ j ≤ m ∧ oj.length = j ∧ j + sj.1.length ≤ 20000 ∧ dimR (m - j) sj oj bj = dimR m s1 [] bad ∧ DimI12 w0 w p rb D (.slice A3 n3 c3) sj oj bj W) := by
          intro b' V hb' hp hbx how htv A3 n3 c3 W ho3 ht3 hn3
          subst hb'
          have hAl : Turn (fun _ => False) V (V.alloc (.cells #[sv10 t] 9)) := (Turn.refl _ V).alloc _
          have how2 := how.later hAl
          have hnew : ∀ k, (Value.slice A i c).ownBlock = some k → w.heap.size ≤ k := HI.out.new
          refine ⟨i + 1, s2, out ++ [t], bi || unrise out t, by simp, hlt, by rw [List.length_append, HOL.out]; rfl, HKN.out, HMO.out, ?_, ?_, ho3, fun k hk => ?_, ?_⟩
          · exact (hp.later hAl).own how2 (by decide) (by decide) (fun k hk => Nat.le_trans HW0.out (hnew k hk)) ht3
          · exact (hbx.turn hAl (fun f => f)).turn ht3 (fun e => how2.not_box (hbx.turn hAl (fun f => f)) (by decide) e)
          · rcases hn3 with e | e
            · exact hnew k (e.symm.trans hk)
            · rw [hk] at e
              injection e with e
              rw [e]
              exact Nat.le_trans htv.size hAl.size
          · exact (htv.trans hAl (fun _ _ f => f.elim)).trans ht3 (fun k hk e => by have := hnew k e; omega)
        have HSRC : Hid (∀ V : World, RdE ET10 (V.alloc (.cells #[sv10 t] 9)) (.slice (some ⟨V.heap.size, 0, none⟩) 1 1) [t]) := fun V => one_row ET10 9 V t
        have HLEN : Hid (out.length + [t].length ≤ 3000000) := by show _ ≤ _; rw [HOL.out]; simp only [List.length_cons, List.length_nil]; omega
        by_cases hi0 : i = 0
        · subst hi0
          have HU : Hid (bi = (bi || unrise out t)) := by
            obtain rfl : out = [] := List.eq_nil_of_length_eq_zero HOL.out
            show _ = _
            rw [unrise_nil, Bool.or_false]
          go_wp2_with (at_builtin; refine wpList_texts10 _ rfl _ _ rfl _ out rfl (HOW.out.later ((Turn.refl _ w2).alloc _)) _ rfl [t] (HSRC.out w2) HLEN.out ?_; intro A3 n3 c3 w3 ho3 ht3 hn3; have HX := Lib.hid (HAPP.out bi w2 HU.out HP2.out HB2.out HOW.out HTW.out A3 n3 c3 w3 ho3 ht3 hn3); clear ho3 ht3 hn3)
          go_roundw
          case rel => exact HX.out
          case measure => simp [intOf]; omega
        · obtain ⟨i', rfl⟩ : ∃ i', i = i' + 1 := ⟨i - 1, by omega⟩
          obtain ⟨z, hz⟩ : ∃ z, out[i']? = some z := ⟨_, List.getElem?_eq_getElem (by have := HOL.out; omega)⟩
          obtain ⟨ad, rfl, hcz⟩ := str_at10 HOW.out.rd hz
          have ez := hcz _ (Turn.refl _ _)
          unfold sv10 at ez
          have hsub : IntKind.i64.wrap (((i' + 1 : Nat) : Int) - 1) = (i' : Int) := by rw [IntWalk.i64_in _ (by omega)]; omega
          have hge : (0 : Int) < ((i' + 1 : Nat) : Int) := by omega
          have hil2 : (i' : Int) < ((i' + 1 : Nat) : Int) := by omega
          have HUN : Hid (unrise out t = !(Op.bytesLess z t)) := unrise_at (by rw [HOL.out]) hz t
          clear hz hcz hi0
          by_cases hless : Op.bytesLess z t = true
          · have h1 : Op.bytesLess t z = false := not_lt_of rises_bytes hless
            have h2 : (t == z) = false := by
              rw [beq_eq_false_iff_ne]
              intro e
              rw [e, less_irr] at hless
              cases hless
            have HU : Hid (bi = (bi || unrise out t)) := by
              show _ = _
              rw [HUN.out, hless]
              simp
            clear hless
            go_wp2_with (at_builtin; refine wpList_texts10 _ rfl _ _ rfl _ out rfl (HOW.out.later ((Turn.refl _ w2).alloc _)) _ rfl [t] (HSRC.out w2) HLEN.out ?_; intro A3 n3 c3 w3 ho3 ht3 hn3; have HX := Lib.hid (HAPP.out bi w2 HU.out HP2.out HB2.out HOW.out HTW.out A3 n3 c3 w3 ho3 ht3 hn3); clear ho3 ht3 hn3)
            go_roundw
            case rel => exact HX.out
            case measure => simp [intOf]; omega
          · have HU : Hid (true = (bi || unrise out t)) := by
              show _ = _
              rw [HUN.out]
              simp [hless]
            have hf5 := HB2.out.free 5
            have hc5 := HB2.out.cell 5
            have hst : Turn (fun g => g = rb) w2 (w2.setCell ⟨rb, 5, none⟩ (.bool true)) := Turn.setCell (S := fun g => g = rb) (p := ⟨rb, 5, none⟩) (Turn.refl _ w2) (fun _ => rfl) _
            have HP3 := Lib.hid (HP2.out.stored H.out.new HB2.out 5 (.bool true))
            have HB3 : Hid (Box (w2.setCell ⟨rb, 5, none⟩ (.bool true)) rb 111 (rcells12 p D true)) := HB2.out.set 5 (.bool true)
            have HO3 := Lib.hid (HOW.out.turn hst (fun k hk e => by subst e; exact HOW.out.not_box HB2.out (by decide) hk))
            have HT3 : Hid (Turn (fun g => g = p ∨ g = rb) w (w2.setCell ⟨rb, 5, none⟩ (.bool true))) := HTW.out.trans hst (fun _ _ e => .inr e)
            have HSR3 : Hid (RdE ET10 ((w2.setCell ⟨rb, 5, none⟩ (.bool true)).alloc (.cells #[sv10 t] 9)) (.slice (some ⟨w2.heap.size, 0, none⟩) 1 1) [t]) := by
              have h := HSRC.out (w2.setCell ⟨rb, 5, none⟩ (.bool true))
              have e : (w2.setCell ⟨rb, 5, none⟩ (.bool true)).heap.size = w2.heap.size := by simp [World.setCell]
              rw [e] at h
              exact h
            clear hst
            by_cases e : t = z
            · have h1 : Op.bytesLess t z = false := by rw [e]; exact less_irr z
              have h2 : (t == z) = true := by rw [e]; simp
              clear hless e
              go_wp2_with (at_builtin; refine wpList_texts10 _ rfl _ _ rfl _ out rfl (HO3.out.later ((Turn.refl _ (w2.setCell ⟨rb, 5, none⟩ (.bool true))).alloc _)) _ rfl [t] HSR3.out HLEN.out ?_; intro A3 n3 c3 w3 ho3 ht3 hn3; have HX := Lib.hid (HAPP.out true (w2.setCell ⟨rb, 5, none⟩ (.bool true)) HU.out HP3.out HB3.out HO3.out HT3.out A3 n3 c3 w3 ho3 ht3 hn3); clear ho3 ht3 hn3)
              go_roundw
              case rel => exact HX.out
              case measure => simp [intOf]; omega
            · have h1 : Op.bytesLess t z = true := less_tot z t (fun e2 => e e2.symm) (by simpa using hless)
              clear hless e
              go_wp2_with (at_builtin; refine wpList_texts10 _ rfl _ _ rfl _ out rfl (HO3.out.later ((Turn.refl _ (w2.setCell ⟨rb, 5, none⟩ (.bool true))).alloc _)) _ rfl [t] HSR3.out HLEN.out ?_; intro A3 n3 c3 w3 ho3 ht3 hn3; have HX := Lib.hid (HAPP.out true (w2.setCell ⟨rb, 5, none⟩ (.bool true)) HU.out HP3.out HB3.out HO3.out HT3.out A3 n3 c3 w3 ho3 ht3 hn3); clear ho3 ht3 hn3)
              go_roundw
              case rel => exact HX.out
              case measure => simp [intOf]; omega
      · have HFA : Hid (dimD s bad = (s2, [], bi)) := by
          show _ = _
          rw [HD0.out, ← HD.out, show m - i = m - (i + 1) + 1 by omega, dimR_fault (by rw [← HS2.out]; exact hz), ← HS2.out]
        have hx2 : (((s2.2 : Int) != 0) = true) := by rw [bne_iff_ne]; omega
        have hx1 : (((s2.2 : Int) == 0) = false) := by rw [beq_eq_false_iff_ne]; omega
        clear hz
        go_wp2
        go_ret
        refine ⟨none, rfl, ?_, ?_, HI.out.turn.trans HT2.out (fun _ _ e => .inl e)⟩
        · rw [HFA.out]
          exact H.out.step HP2.out HB2.out (HI.out.turn.trans HT2.out (fun _ _ e => .inl e))
        · rw [HFA.out]
          exact DV10.nil _
    · obtain rfl : i = m := by omega
      have HFI : Hid (dimD s bad = (si, out, bi)) := by
        show _ = _
        rw [HD0.out, ← HD.out, Nat.sub_self]
        rfl
      have HOF := Lib.hid (of_post_any10 _ out wr HI.out.own.rd (by rw [HOL.out]; have := HKI.out; omega))
      go_wp2_with fail
      refine HOF.out.mono ?_
      rintro e w2 ⟨d, rfl, hd, -, t2⟩
      obtain ⟨E, rfl⟩ := hd.ptr
      have HDD := Lib.hid hd; have HT2 := Lib.hid t2
      clear hd t2 HOF
      go_wp2
      go_ret
      refine ⟨E, rfl, ?_, ?_, HI.out.turn.trans HT2.out (fun _ _ f => f.elim)⟩
      · rw [HFI.out]
        exact (H.out.step HI.out.pr HI.out.box HI.out.turn).later HT2.out
      · rw [HFI.out]
        exact HDD.out

end Go.Proofs.YticglepkbihldaaGreat

/-
  Stage 12: the program's reader: text, cell.
-/
namespace Go.Proofs.YticglepkbihldaaGreat
open Go.RowKit

set_option maxRecDepth 100000

/-- The text of a place, of a dimension. -/
def plcT12 (T : List (List UInt8)) (s : St12) : Option (List UInt8) := T[gCount 65535 s]?
def TextA12 (w0 w : World) (p rb : Nat) (s : St12) (D : Nat → Option Addr) (T : Nat → List (List UInt8)) (bad : Bool) (d : Nat) (e : Ending) (w' : World) : Prop :=
  e = .returned (sv10 ((plcT12 (T d) s).getD [])) ∧ RX12 w0 w' p rb (gCount' 65535 s) D T (bad || (plcT12 (T d) s).isNone) ∧ Turn (fun g => g = p ∨ g = rb) w w'
theorem dic_at12 {p : Nat} {D : Nat → Option Addr} {bad : Bool} : ∀ d, d < 4 → (rcells12 p D bad)[1 + d]? = some (.pointer (D d)) := fun d hd => by
  match d, hd with
  | 0, _ => rfl
  | 1, _ => rfl
  | 2, _ => rfl
  | 3, _ => rfl
theorem atA_is12 (n : Nat) (L : List (List UInt8)) : atA (n : Int) L = .tuple #[sv10 ((L[n]?).getD []), .bool (L[n]?).isSome] := by
  unfold atA atT
  rw [if_pos (Int.natCast_nonneg n), Int.toNat_natCast]
set_option maxHeartbeats 8000000 in
theorem text_any12 (w0 : World) (p rb : Nat) (s : St12) (D : Nat → Option Addr) (T : Nat → List (List UInt8)) (bad : Bool) (d : Nat) (hd : d < 4) (w : World) (h : RX12 w0 w p rb s D T bad) :
    Calls Tryz.prog 105 #[.pointer (some ⟨rb, 0, none⟩), .int .i64 (d : Int)] w fun e w' => TextA12 w0 w p rb s D T bad d e w' := by
  have H := Lib.hid h
  have hd4 : (d : Int) < 4 := by omega
  have HSK : Hid (∀ W, Turn (fun g => g = p) w W → (W.cell? ⟨rb, 0, none⟩ = some (.pointer (some ⟨p, 0, none⟩)) ∧ W.cell? ⟨rb, 1 + d, none⟩ = some (.pointer (D d))) ∧ Turn (fun g => g = p) w W) := fun W ht => by
    have hb := h.box.turn ht h.ne
    exact ⟨⟨hb.cell 0, by rw [hb.cell]; exact dic_at12 d hd⟩, ht⟩
  clear h
  go_enter Tryz.func105, Tryz.ntmps105
  go_wp2_with fail
  refine drawn_region (fun W => (W.cell? ⟨rb, 0, none⟩ = some (.pointer (some ⟨p, 0, none⟩)) ∧ W.cell? ⟨rb, 1 + d, none⟩ = some (.pointer (D d))) ∧ Turn (fun g => g = p) w W) [] (by kernel_rfl) ?_
  have HTD : Hid (Turn (fun _ => False) w (World.drew w)) := (Turn.refl _ w).drew
  have hS0 := HSK.out _ HTD.out.none
  have HPR := Lib.hid (pr_count 65535 (by omega) (H.out.pr.later HTD.out))
  generalize World.drew w = wd at *
  refine drawn_take 0 8 (.pointer (some ⟨rb, 0, none⟩)) rfl rfl (by kernel_rfl) (by kernel_rfl) (by kernel_rfl) (by kernel_rfl) (fun _ _ _ h => h) (by rfl) (by assumption) (by intro w hSw; obtain ⟨⟨hS1, hS2⟩, hS3⟩ := hSw; go_simp) ?_
  try simp only [List.setIfInBounds_toArray, List.set_cons_zero, List.set_cons_succ]
  refine drawn_take 1 9 (.int .i64 (d : Int)) rfl rfl (by kernel_rfl) (by kernel_rfl) (by kernel_rfl) (by kernel_rfl) (fun _ _ _ h => h) (by rfl) (by assumption) (by intro w hSw; obtain ⟨⟨hS1, hS2⟩, hS3⟩ := hSw; go_simp) ?_
  try simp only [List.setIfInBounds_toArray, List.set_cons_zero, List.set_cons_succ]
  refine drawn_take 2 10 (.pointer (some ⟨rb, 0, none⟩)) rfl rfl (by kernel_rfl) (by kernel_rfl) (by kernel_rfl) (by kernel_rfl) (fun _ _ _ h => h) (by rfl) (by assumption) (by intro w hSw; obtain ⟨⟨hS1, hS2⟩, hS3⟩ := hSw; go_simp) ?_
  try simp only [List.setIfInBounds_toArray, List.set_cons_zero, List.set_cons_succ]
  refine drawn_take 3 11 (.pointer (some ⟨rb, 1, none⟩)) rfl rfl (by kernel_rfl) (by kernel_rfl) (by kernel_rfl) (by kernel_rfl) (fun _ _ _ h => h) (by rfl) (by assumption) (by intro w hSw; obtain ⟨⟨hS1, hS2⟩, hS3⟩ := hSw; go_simp) ?_
  try simp only [List.setIfInBounds_toArray, List.set_cons_zero, List.set_cons_succ]
  refine drawn_take 4 12 (.pointer (some ⟨rb, 1 + d, none⟩)) rfl rfl (by kernel_rfl) (by kernel_rfl) (by kernel_rfl) (by kernel_rfl) (fun _ _ _ h => h) (by rfl) (by assumption) (by intro w hSw; obtain ⟨⟨hS1, hS2⟩, hS3⟩ := hSw; go_simp) ?_
  try simp only [List.setIfInBounds_toArray, List.set_cons_zero, List.set_cons_succ]
  refine drawn_take 5 13 (.pointer (D d)) rfl rfl (by kernel_rfl) (by kernel_rfl) (by kernel_rfl) (by kernel_rfl) (fun _ _ _ h => h) (by rfl) (by assumption) (by intro w hSw; obtain ⟨⟨hS1, hS2⟩, hS3⟩ := hSw; go_simp) ?_
  try simp only [List.setIfInBounds_toArray, List.set_cons_zero, List.set_cons_succ]
  refine drawn_take 6 14 (.pointer (some ⟨rb, 0, none⟩)) rfl rfl (by kernel_rfl) (by kernel_rfl) (by kernel_rfl) (by kernel_rfl) (fun _ _ _ h => h) (by rfl) (by assumption) (by intro w hSw; obtain ⟨⟨hS1, hS2⟩, hS3⟩ := hSw; go_simp) ?_
  try simp only [List.setIfInBounds_toArray, List.set_cons_zero, List.set_cons_succ]
  refine drawn_take 7 15 (.pointer (some ⟨rb, 0, none⟩)) rfl rfl (by kernel_rfl) (by kernel_rfl) (by kernel_rfl) (by kernel_rfl) (fun _ _ _ h => h) (by rfl) (by assumption) (by intro w hSw; obtain ⟨⟨hS1, hS2⟩, hS3⟩ := hSw; go_simp) ?_
  try simp only [List.setIfInBounds_toArray, List.set_cons_zero, List.set_cons_succ]
  refine drawn_take 8 16 (.pointer (some ⟨rb, 0, none⟩)) rfl rfl (by kernel_rfl) (by kernel_rfl) (by kernel_rfl) (by kernel_rfl) (fun _ _ _ h => h) (by rfl) (by assumption) (by intro w hSw; obtain ⟨⟨hS1, hS2⟩, hS3⟩ := hSw; go_simp) ?_
  try simp only [List.setIfInBounds_toArray, List.set_cons_zero, List.set_cons_succ]
  refine drawn_take 9 17 (.pointer (some ⟨p, 0, none⟩)) rfl rfl (by kernel_rfl) (by kernel_rfl) (by kernel_rfl) (by kernel_rfl) (fun _ _ _ h => h) (by rfl) (by assumption) (by intro w hSw; obtain ⟨⟨hS1, hS2⟩, hS3⟩ := hSw; go_simp) ?_
  try simp only [List.setIfInBounds_toArray, List.set_cons_zero, List.set_cons_succ]
  refine drawn_any [10] (by kernel_rfl) (by simp) ?_
  refine drawn_cons rfl (fun K hK => ?_) drawn_nil
  go_simp
  refine HPR.out.mono ?_
  rintro e w1 ⟨rfl, h1, t1⟩
  have hS4 := HSK.out _ (HTD.out.none.trans t1 (fun _ _ e => e))
  refine hK.out _ _ _ hS4 ?_
  have HP1 := Lib.hid h1
  have HDV : Hid (DV10 w1 (.pointer (D d)) (T d)) := ((H.out.dic d hd).later HTD.out).kept t1 (fun k t cs e hb => (H.out.later HTD.out).apart k t cs (.inl e) hb)
  have HAT := at_any10 (.pointer (D d)) (T d) (gCount 65535 s : Int) w1 HDV.out
  rw [atA_is12] at HAT
  have HA := Lib.hid HAT
  clear hK K hS0 h1 t1 HPR HAT
  try simp only [List.setIfInBounds_toArray, List.set_cons_zero, List.set_cons_succ]
  refine drawn_any [11] (by kernel_rfl) (by simp) ?_
  refine drawn_cons rfl (fun K hK => ?_) drawn_nil
  go_simp
  refine HA.out.mono ?_
  rintro e w2 ⟨rfl, t2⟩
  have hS5 := HSK.out _ (hS4.2.trans t2 (fun _ _ f => f.elim))
  refine hK.out _ _ _ hS5 ?_
  have HP2 := Lib.hid (HP1.out.later t2)
  clear hK K hS4 t2 HA
  obtain ⟨o, ho⟩ : ∃ o, o = plcT12 (T d) s := ⟨_, rfl⟩
  have ho2 : (T d)[gCount 65535 s]? = o := ho.symm
  have HO := Lib.hid ho
  rw [ho2]
  clear ho ho2
  cases o with
  | some x =>
    simp only [Option.getD_some, Option.isSome_some]
    refine drawn_take 12 7 (.tuple #[sv10 x, .bool true]) rfl rfl (by kernel_rfl) (by kernel_rfl) (by kernel_rfl) (by kernel_rfl) (fun _ _ _ h => h) (by rfl) (by assumption) (by intro w hSw; obtain ⟨⟨hS1, hS2⟩, hS3⟩ := hSw; go_simp) ?_
    try simp only [List.setIfInBounds_toArray, List.set_cons_zero, List.set_cons_succ]
    refine drawn_take 13 20 (sv10 x) rfl rfl (by kernel_rfl) (by kernel_rfl) (by kernel_rfl) (by kernel_rfl) (fun _ _ _ h => h) (by rfl) (by assumption) (by intro w hSw; obtain ⟨⟨hS1, hS2⟩, hS3⟩ := hSw; go_simp) ?_
    try simp only [List.setIfInBounds_toArray, List.set_cons_zero, List.set_cons_succ]
    refine drawn_take 14 21 (.bool true) rfl rfl (by kernel_rfl) (by kernel_rfl) (by kernel_rfl) (by kernel_rfl) (fun _ _ _ h => h) (by rfl) (by assumption) (by intro w hSw; obtain ⟨⟨hS1, hS2⟩, hS3⟩ := hSw; go_simp) ?_
    try simp only [List.setIfInBounds_toArray, List.set_cons_zero, List.set_cons_succ]
    refine drawn_take 15 5 (sv10 x) rfl rfl (by kernel_rfl) (by kernel_rfl) (by kernel_rfl) (by kernel_rfl) (fun _ _ _ h => h) (by rfl) (by assumption) (by intro w hSw; obtain ⟨⟨hS1, hS2⟩, hS3⟩ := hSw; go_simp) ?_
    try simp only [List.setIfInBounds_toArray, List.set_cons_zero, List.set_cons_succ]
    refine drawn_last1 16 6 (.bool true) rfl rfl (by kernel_rfl) (by kernel_rfl) (by rfl) (by intro w; go_simp) hS5 ?_
    try simp only [List.setIfInBounds_toArray, List.set_cons_zero, List.set_cons_succ]
    have HT5 := Lib.hid hS5.2
    clear hS5
    go_wp2
    go_ret
    refine ⟨by rw [← HO.out]; rfl, ?_, HT5.out.mono fun _ _ e => .inl e⟩
    rw [← HO.out]
    simp only [Option.isNone_some, Bool.or_false]
    exact H.out.read HP2.out HT5.out
  | none =>
    simp only [Option.getD_none, Option.isSome_none]
    refine drawn_take 12 7 (.tuple #[sv10 [], .bool false]) rfl rfl (by kernel_rfl) (by kernel_rfl) (by kernel_rfl) (by kernel_rfl) (fun _ _ _ h => h) (by rfl) (by assumption) (by intro w hSw; obtain ⟨⟨hS1, hS2⟩, hS3⟩ := hSw; go_simp) ?_
    try simp only [List.setIfInBounds_toArray, List.set_cons_zero, List.set_cons_succ]
    refine drawn_take 13 20 (sv10 []) rfl rfl (by kernel_rfl) (by kernel_rfl) (by kernel_rfl) (by kernel_rfl) (fun _ _ _ h => h) (by rfl) (by assumption) (by intro w hSw; obtain ⟨⟨hS1, hS2⟩, hS3⟩ := hSw; go_simp) ?_
    try simp only [List.setIfInBounds_toArray, List.set_cons_zero, List.set_cons_succ]
    refine drawn_take 14 21 (.bool false) rfl rfl (by kernel_rfl) (by kernel_rfl) (by kernel_rfl) (by kernel_rfl) (fun _ _ _ h => h) (by rfl) (by assumption) (by intro w hSw; obtain ⟨⟨hS1, hS2⟩, hS3⟩ := hSw; go_simp) ?_
    try simp only [List.setIfInBounds_toArray, List.set_cons_zero, List.set_cons_succ]
    refine drawn_take 15 5 (sv10 []) rfl rfl (by kernel_rfl) (by kernel_rfl) (by kernel_rfl) (by kernel_rfl) (fun _ _ _ h => h) (by rfl) (by assumption) (by intro w hSw; obtain ⟨⟨hS1, hS2⟩, hS3⟩ := hSw; go_simp) ?_
    try simp only [List.setIfInBounds_toArray, List.set_cons_zero, List.set_cons_succ]
    refine drawn_last1 16 6 (.bool false) rfl rfl (by kernel_rfl) (by kernel_rfl) (by rfl) (by intro w; go_simp) hS5 ?_
    try simp only [List.setIfInBounds_toArray, List.set_cons_zero, List.set_cons_succ]
    have HR5 := Lib.hid (H.out.read HP2.out hS5.2)
    have HT5 := Lib.hid hS5.2
    have hf5 := HR5.out.box.free 5
    have hc5 := HR5.out.box.cell 5
    clear hS5
    go_wp2
    go_ret
    refine ⟨by rw [← HO.out]; rfl, ?_, (HT5.out.mono fun _ _ e => .inl e).setCell (p := ⟨rb, 5, none⟩) (fun _ => .inr rfl) _⟩
    rw [← HO.out]
    simp only [Option.isNone_none, Bool.or_true]
    exact HR5.out.wrong

/-- Behind cell. -/
def CellA12 (w0 w : World) (p rb : Nat) (s : St12) (D : Nat → Option Addr) (T : Nat → List (List UInt8)) (bad : Bool) (e : Ending) (w' : World) : Prop :=
  e = .returned (cv (cellR s)) ∧ RX12 w0 w' p rb (st4 s) D T bad ∧ Turn (fun g => g = p) w w'
set_option maxHeartbeats 8000000 in
theorem cell_any12 (w0 : World) (p rb : Nat) (s : St12) (D : Nat → Option Addr) (T : Nat → List (List UInt8)) (bad : Bool) (w : World) (h : RX12 w0 w p rb s D T bad) :
    Calls Tryz.prog 106 #[.pointer (some ⟨rb, 0, none⟩)] w fun e w' => CellA12 w0 w p rb s D T bad e w' := by
  have H := Lib.hid h
  obtain ⟨w1, hw1⟩ : ∃ w1, w1 = w.alloc (.cells #[.int .i64 0, .int .i64 0, .int .i64 0, .int .i64 0] 50) := ⟨_, rfl⟩
  obtain ⟨g, hg⟩ : ∃ g : Nat, g = w.heap.size := ⟨_, rfl⟩
  have HT1 : Hid (Turn (fun _ => False) w w1) := by rw [hw1]; exact (Turn.refl _ w).alloc _
  have HB1 : Hid (Box w1 g 50 #[.int .i64 0, .int .i64 0, .int .i64 0, .int .i64 0]) := by rw [hw1, hg]; exact Box.new w _ _
  have HNG : Hid (¬ g = p) := fun e => by
    obtain ⟨cs, hc⟩ := (h.later HT1.out).pr.box
    rw [← e] at hc
    exact absurd (box_type12 HB1.out hc).1 (by decide)
  have HSK : Hid (∀ W, Turn (fun g => g = p) w1 W → W.cell? ⟨rb, 0, none⟩ = some (.pointer (some ⟨p, 0, none⟩)) ∧ Turn (fun g => g = p) w1 W) := fun W ht => by
    have hb := (h.later HT1.out).box.turn ht h.ne
    exact ⟨hb.cell 0, ht⟩
  have HW1 := Lib.hid hw1; have HGG := Lib.hid hg
  clear h hw1 hg
  go_enter Tryz.func106, Tryz.ntmps106
  go_wp2_with fail
  rw [← HW1.out, ← HGG.out]
  go_wp2_with fail
  refine drawn_region (fun W => W.cell? ⟨rb, 0, none⟩ = some (.pointer (some ⟨p, 0, none⟩)) ∧ Turn (fun g => g = p) w1 W) [22] (by kernel_rfl) ?_
  have HTD : Hid (Turn (fun _ => False) w1 (World.drew w1)) := (Turn.refl _ w1).drew
  have hS0 := HSK.out _ HTD.out.none
  have HPR := Lib.hid ((H.out.later HT1.out).pr.later HTD.out)
  generalize World.drew w1 = wd at *
  refine drawn_take 0 3 (.pointer (some ⟨rb, 0, none⟩)) rfl rfl (by kernel_rfl) (by kernel_rfl) (by kernel_rfl) (by kernel_rfl) (fun _ _ _ h => h) (by rfl) (by assumption) (by intro w hSw; obtain ⟨hS1, hS2⟩ := hSw; go_simp) ?_
  try simp only [List.setIfInBounds_toArray, List.set_cons_zero, List.set_cons_succ]
  refine drawn_take 1 4 (.pointer (some ⟨rb, 0, none⟩)) rfl rfl (by kernel_rfl) (by kernel_rfl) (by kernel_rfl) (by kernel_rfl) (fun _ _ _ h => h) (by rfl) (by assumption) (by intro w hSw; obtain ⟨hS1, hS2⟩ := hSw; go_simp) ?_
  try simp only [List.setIfInBounds_toArray, List.set_cons_zero, List.set_cons_succ]
  refine drawn_take 2 5 (.pointer (some ⟨rb, 0, none⟩)) rfl rfl (by kernel_rfl) (by kernel_rfl) (by kernel_rfl) (by kernel_rfl) (fun _ _ _ h => h) (by rfl) (by assumption) (by intro w hSw; obtain ⟨hS1, hS2⟩ := hSw; go_simp) ?_
  try simp only [List.setIfInBounds_toArray, List.set_cons_zero, List.set_cons_succ]
  refine drawn_take 3 6 (.pointer (some ⟨p, 0, none⟩)) rfl rfl (by kernel_rfl) (by kernel_rfl) (by kernel_rfl) (by kernel_rfl) (fun _ _ _ h => h) (by rfl) (by assumption) (by intro w hSw; obtain ⟨hS1, hS2⟩ := hSw; go_simp) ?_
  try simp only [List.setIfInBounds_toArray, List.set_cons_zero, List.set_cons_succ]
  refine drawn_take 6 9 (.pointer (some ⟨rb, 0, none⟩)) rfl rfl (by kernel_rfl) (by kernel_rfl) (by kernel_rfl) (by kernel_rfl) (fun _ _ _ h => h) (by rfl) (by assumption) (by intro w hSw; obtain ⟨hS1, hS2⟩ := hSw; go_simp) ?_
  try simp only [List.setIfInBounds_toArray, List.set_cons_zero, List.set_cons_succ]
  refine drawn_take 7 10 (.pointer (some ⟨rb, 0, none⟩)) rfl rfl (by kernel_rfl) (by kernel_rfl) (by kernel_rfl) (by kernel_rfl) (fun _ _ _ h => h) (by rfl) (by assumption) (by intro w hSw; obtain ⟨hS1, hS2⟩ := hSw; go_simp) ?_
  try simp only [List.setIfInBounds_toArray, List.set_cons_zero, List.set_cons_succ]
  refine drawn_take 8 11 (.pointer (some ⟨rb, 0, none⟩)) rfl rfl (by kernel_rfl) (by kernel_rfl) (by kernel_rfl) (by kernel_rfl) (fun _ _ _ h => h) (by rfl) (by assumption) (by intro w hSw; obtain ⟨hS1, hS2⟩ := hSw; go_simp) ?_
  try simp only [List.setIfInBounds_toArray, List.set_cons_zero, List.set_cons_succ]
  refine drawn_take 9 12 (.pointer (some ⟨p, 0, none⟩)) rfl rfl (by kernel_rfl) (by kernel_rfl) (by kernel_rfl) (by kernel_rfl) (fun _ _ _ h => h) (by rfl) (by assumption) (by intro w hSw; obtain ⟨hS1, hS2⟩ := hSw; go_simp) ?_
  try simp only [List.setIfInBounds_toArray, List.set_cons_zero, List.set_cons_succ]
  refine drawn_take 11 14 (.pointer (some ⟨rb, 0, none⟩)) rfl rfl (by kernel_rfl) (by kernel_rfl) (by kernel_rfl) (by kernel_rfl) (fun _ _ _ h => h) (by rfl) (by assumption) (by intro w hSw; obtain ⟨hS1, hS2⟩ := hSw; go_simp) ?_
  try simp only [List.setIfInBounds_toArray, List.set_cons_zero, List.set_cons_succ]
  refine drawn_take 12 15 (.pointer (some ⟨rb, 0, none⟩)) rfl rfl (by kernel_rfl) (by kernel_rfl) (by kernel_rfl) (by kernel_rfl) (fun _ _ _ h => h) (by rfl) (by assumption) (by intro w hSw; obtain ⟨hS1, hS2⟩ := hSw; go_simp) ?_
  try simp only [List.setIfInBounds_toArray, List.set_cons_zero, List.set_cons_succ]
  refine drawn_take 13 16 (.pointer (some ⟨rb, 0, none⟩)) rfl rfl (by kernel_rfl) (by kernel_rfl) (by kernel_rfl) (by kernel_rfl) (fun _ _ _ h => h) (by rfl) (by assumption) (by intro w hSw; obtain ⟨hS1, hS2⟩ := hSw; go_simp) ?_
  try simp only [List.setIfInBounds_toArray, List.set_cons_zero, List.set_cons_succ]
  refine drawn_take 14 17 (.pointer (some ⟨p, 0, none⟩)) rfl rfl (by kernel_rfl) (by kernel_rfl) (by kernel_rfl) (by kernel_rfl) (fun _ _ _ h => h) (by rfl) (by assumption) (by intro w hSw; obtain ⟨hS1, hS2⟩ := hSw; go_simp) ?_
  try simp only [List.setIfInBounds_toArray, List.set_cons_zero, List.set_cons_succ]
  refine drawn_take 16 19 (.pointer (some ⟨rb, 0, none⟩)) rfl rfl (by kernel_rfl) (by kernel_rfl) (by kernel_rfl) (by kernel_rfl) (fun _ _ _ h => h) (by rfl) (by assumption) (by intro w hSw; obtain ⟨hS1, hS2⟩ := hSw; go_simp) ?_
  try simp only [List.setIfInBounds_toArray, List.set_cons_zero, List.set_cons_succ]
  refine drawn_take 17 20 (.pointer (some ⟨rb, 0, none⟩)) rfl rfl (by kernel_rfl) (by kernel_rfl) (by kernel_rfl) (by kernel_rfl) (fun _ _ _ h => h) (by rfl) (by assumption) (by intro w hSw; obtain ⟨hS1, hS2⟩ := hSw; go_simp) ?_
  try simp only [List.setIfInBounds_toArray, List.set_cons_zero, List.set_cons_succ]
  refine drawn_take 18 21 (.pointer (some ⟨rb, 0, none⟩)) rfl rfl (by kernel_rfl) (by kernel_rfl) (by kernel_rfl) (by kernel_rfl) (fun _ _ _ h => h) (by rfl) (by assumption) (by intro w hSw; obtain ⟨hS1, hS2⟩ := hSw; go_simp) ?_
  try simp only [List.setIfInBounds_toArray, List.set_cons_zero, List.set_cons_succ]
  refine drawn_take 19 22 (.pointer (some ⟨p, 0, none⟩)) rfl rfl (by kernel_rfl) (by kernel_rfl) (by kernel_rfl) (by kernel_rfl) (fun _ _ _ h => h) (by rfl) (by assumption) (by intro w hSw; obtain ⟨hS1, hS2⟩ := hSw; go_simp) ?_
  try simp only [List.setIfInBounds_toArray, List.set_cons_zero, List.set_cons_succ]
  refine drawn_any [4] (by kernel_rfl) (by simp) ?_
  refine drawn_cons rfl (fun K hK => ?_) drawn_nil
  go_simp
  refine (pr_num HPR.out).mono ?_
  rintro e wa ⟨rfl, ha, ta⟩
  have HPA := Lib.hid ha
  have hSa := HSK.out _ (hS0.2.trans ta (fun _ _ e => e))
  refine hK.out _ _ _ hSa ?_
  clear hK K hS0 ha ta HPR
  try simp only [List.setIfInBounds_toArray, List.set_cons_zero, List.set_cons_succ]
  refine drawn_take 5 8 (.int .i64 (IntKind.i64.wrap (gNum s : Int))) rfl rfl (by kernel_rfl) (by kernel_rfl) (by kernel_rfl) (by kernel_rfl) (fun _ _ _ h => h) (by rfl) (by assumption) (by intro w hSw; obtain ⟨hS1, hS2⟩ := hSw; go_simp) ?_
  try simp only [List.setIfInBounds_toArray, List.set_cons_zero, List.set_cons_succ]
  refine drawn_any [10] (by kernel_rfl) (by simp) ?_
  refine drawn_cons rfl (fun K hK => ?_) drawn_nil
  go_simp
  refine (pr_int HPA.out).mono ?_
  rintro e wb ⟨rfl, hb, tb⟩
  have HPB := Lib.hid hb
  have hSb := HSK.out _ (hSa.2.trans tb (fun _ _ e => e))
  refine hK.out _ _ _ hSb ?_
  clear hK K hSa hb tb HPA
  try simp only [List.setIfInBounds_toArray, List.set_cons_zero, List.set_cons_succ]
  refine drawn_any [15] (by kernel_rfl) (by simp) ?_
  refine drawn_cons rfl (fun K hK => ?_) drawn_nil
  go_simp
  refine (pr_int HPB.out).mono ?_
  rintro e wc ⟨rfl, hc, tc⟩
  have HPC := Lib.hid hc
  have hSc := HSK.out _ (hSb.2.trans tc (fun _ _ e => e))
  refine hK.out _ _ _ hSc ?_
  clear hK K hSb hc tc HPB
  try simp only [List.setIfInBounds_toArray, List.set_cons_zero, List.set_cons_succ]
  refine drawn_any [20] (by kernel_rfl) (by simp) ?_
  refine drawn_cons rfl (fun K hK => ?_) drawn_nil
  go_simp
  refine (pr_int HPC.out).mono ?_
  rintro e we ⟨rfl, he, te⟩
  have HPE := Lib.hid he
  have hSe := HSK.out _ (hSc.2.trans te (fun _ _ e => e))
  refine hK.out _ _ _ hSe ?_
  clear hK K hSc he te HPC
  try simp only [List.setIfInBounds_toArray, List.set_cons_zero, List.set_cons_succ]
  refine drawn_take 21 24 (.agg #[.int .i64 (IntKind.i64.wrap (gNum s : Int)), .int .i64 (gInt (gNum' s)), .int .i64 (gInt (gNum' (gNum' s))), .int .i64 (gInt (gNum' (gNum' (gNum' s))))]) rfl rfl (by kernel_rfl) (by kernel_rfl) (by kernel_rfl) (by kernel_rfl) (fun _ _ _ h => h) (by rfl) (by assumption) (by intro w hSw; obtain ⟨hS1, hS2⟩ := hSw; go_simp) ?_
  try simp only [List.setIfInBounds_toArray, List.set_cons_zero, List.set_cons_succ]
  refine drawn_last (z := 22) rfl (by kernel_rfl) (by kernel_rfl) (by kernel_rfl) (fun K hK => ?_)
  have HTE := Lib.hid hSe.2
  have HBE := Lib.hid (HB1.out.turn hSe.2 HNG.out)
  have HTH : Hid (we.there g 0 4) := HBE.out.there (Nat.le_refl 4)
  have HSI : Hid ((Tryz.prog.info? 50).map (·.size) = some 4) := by show _ = _; kernel_rfl
  have HCC : Hid (cv (cellR s) = .agg #[.int .i64 (IntKind.i64.wrap (gNum s : Int)), .int .i64 (gInt (gNum' s)), .int .i64 (gInt (gNum' (gNum' s))), .int .i64 (gInt (gNum' (gNum' (gNum' s))))]) := rfl
  generalize IntKind.i64.wrap (gNum s : Int) = y0 at *
  generalize gInt (gNum' s) = y1 at *
  generalize gInt (gNum' (gNum' s)) = y2 at *
  generalize gInt (gNum' (gNum' (gNum' s))) = y3 at *
  refine put_box g 0 #[.int .i64 y0, .int .i64 y1, .int .i64 y2, .int .i64 y3] HTH.out rfl rfl HSI.out (by simp [Value.oneCell']) ?_
  obtain ⟨w5, hw5⟩ : ∃ w5, w5 = we.setCells g 0 [.int .i64 y0, .int .i64 y1, .int .i64 y2, .int .i64 y3] := ⟨_, rfl⟩
  have HB5 : Hid (Box w5 g 50 #[.int .i64 y0, .int .i64 y1, .int .i64 y2, .int .i64 y3]) := by rw [hw5]; exact HBE.out.all _ rfl
  have HT5 : Hid (Turn (fun k => k = g) we w5) := by rw [hw5]; exact turn_setCells (S := fun k => k = g) rfl _ _ _
  have e5 : we.setCells g 0 [.int .i64 y0, .int .i64 y1, .int .i64 y2, .int .i64 y3] = w5 := hw5.symm
  try rw [← hw5]
  try rw [e5]
  refine hK.out _ _ ?_
  clear hK K hSe hw5 e5
  have z0 := HB5.out.cell 0; have z1 := HB5.out.cell 1; have z2 := HB5.out.cell 2; have z3 := HB5.out.cell 3
  try simp only [List.setIfInBounds_toArray, List.set_cons_zero, List.set_cons_succ]
  go_wp2
  have hGW : ∀ k, k < w.heap.size → ¬ k = g := fun k hk e => by have := HGG.out; omega
  refine bodyPost_ret (v := .agg #[.int .i64 y0, .int .i64 y1, .int .i64 y2, .int .i64 y3]) ?_ rfl ⟨by rw [HCC.out], ?_, ?_⟩
  · rw [results_cell rfl]
    go_simp
  · have h1 := (H.out.later HT1.out).read HPE.out HTE.out
    refine ⟨h1.pr.keep HT5.out (fun k e => by rw [e]; have := HGG.out; have := H.out.turn.size; omega) (fun k e => by subst e; exact ⟨_, _, by decide, by decide, HBE.out⟩), h1.new, h1.box.turn HT5.out (fun e => ?_), fun d hd => (h1.dic d hd).kept HT5.out (fun k t cs e hb => ?_)⟩
    · have hb := h1.box
      rw [e] at hb
      exact absurd (box_type12 hb HBE.out).1 (by decide)
    · subst e
      have e2 := (box_type12 hb HBE.out).1
      subst e2
      exact ⟨by decide, by decide, by decide, by decide⟩
  · exact ((HT1.out.none.trans HTE.out (fun _ _ e => e)).trans HT5.out (fun k hk e => absurd e (hGW k hk)))

end Go.Proofs.YticglepkbihldaaGreat
