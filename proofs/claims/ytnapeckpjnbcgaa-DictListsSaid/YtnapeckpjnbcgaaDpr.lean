
/-
  append onto a row of one's own that has room: the row stays where it is. No type is named here.
-/
import Derived.Test.YtnapeckpjnbcgaaEr
import Derived.Test.YtnapeckpjnbcgaaId
import Derived.OwnWalkIn
namespace Go.Proofs.Ytnapeckpjnbcgaa
open Go.RowKit

theorem run_app_room {P : Program} (w : World) (t tx ty e : TypeId) (i : TypeInfo) (ht : P.underlying t = some (.slice e)) (hi : P.info? e = some i)
    (g n cap : Nat) (xs : List Value) (hown : w.ownsRow 0 e i.size (.slice (some ⟨g, 0, none⟩) n cap) n xs) (x : Value) (m : Nat) (news : List Value) (hs : Src P i.size tx x m news w) (hroom : n + m ≤ cap) :
    ∃ w', (Builtin.append_ #[t, tx] ty #[.slice (some ⟨g, 0, none⟩) n cap, x]).run P w = .ok (.slice (some ⟨g, 0, none⟩) (n + m) cap) w' ∧ w'.ownsRow 0 e i.size (.slice (some ⟨g, 0, none⟩) (n + m) cap) (n + m) (xs ++ news) ∧ w.grownBy w' (some g) := by
  have hlen : (xs ++ news).length = (n + m) * i.size := by rw [List.length_append, hown.1, hs.newsLen, Nat.add_mul]
  rcases hown.2 with ⟨e1, _⟩ | ⟨g', cap', cur, e1, hb0, hg, hnc, hcm, hcs, htake⟩
  · cases e1
  · cases e1
    have hfit : n * i.size + news.length ≤ cur.size := by rw [hs.newsLen, hcs, ← Nat.add_mul]; exact Nat.mul_le_mul_right _ hroom
    have hst := run_storeCells_at P g (n * i.size) e news 0 cur w hg (by simpa using hfit) hs.one
    simp only [Nat.add_zero] at hst
    have hr : (Builtin.append_ #[t, tx] ty #[.slice (some ⟨g, 0, none⟩) n cap, x]).run P w =
        .ok (.slice (some ⟨g, 0, none⟩) (n + m) cap) (w.setRow g (cur.toList.take (n * i.size) ++ news ++ cur.toList.drop (n * i.size + news.length)).toArray) := by
      rcases hs.kind with ⟨e', hk⟩ | hk <;> simp [Builtin.append_, run_underlying ht, run_underlying hk, sizeOf, typeInfo, hi, hs.len, hs.cells, hroom, Addr.add_lit, hst]
    refine ⟨_, hr, ⟨hlen, .inr ⟨g, cap, _, rfl, hb0, setRow_heap w g cur _ e _ hg, hroom, hcm, ?_, ?_⟩⟩, ⟨rfl, rfl, rfl, by simp, fun k _ hk => setRow_other w g k _ (fun e => hk (by simp [e]))⟩⟩
    · simp only [List.size_toArray, List.length_append, List.length_take, List.length_drop, Array.length_toList]
      omega
    · rw [htake, ← hlen]
      exact List.take_left
theorem app_room {P : Program} {T : Type} {E : El T} {tS e : TypeId} {z : Value} {by' : Nat} (ht : P.underlying tS = some (.slice e)) (hi0 : (P.info? e).map (fun i => (i.zero, i.size, i.bytes)) = some (some z, E.sz, by'))
    (w : World) (tx ty : TypeId) (g n c : Nat) (l : List T) (hown : OwE E e w (.slice (some ⟨g, 0, none⟩) n c) l) (y : Value) (m : List T) (hy : Src P E.sz tx y m.length (E.flat m) w) (hroom : l.length + m.length ≤ c) :
    ∃ w', (Builtin.append_ #[tS, tx] ty #[.slice (some ⟨g, 0, none⟩) n c, y]).run P w = .ok (.slice (some ⟨g, 0, none⟩) (l.length + m.length) c) w' ∧ OwE E e w' (.slice (some ⟨g, 0, none⟩) (l.length + m.length) c) (l ++ m) ∧ Turn (fun k => k = g) w w' := by
  obtain ⟨i, hi, hz0, h1, h2⟩ := info_parts hi0
  obtain ⟨_, _, hsh⟩ := hown.shape
  obtain rfl : n = l.length := by injection hsh
  unfold OwE at hown
  rw [← h1] at hown hy
  obtain ⟨w', hr, g1, g2⟩ := run_app_room (P := P) w tS tx ty e i ht hi g _ c _ hown y m.length _ hy hroom
  refine ⟨w', hr, ?_, (Turn.refl _ w).grown g2 (fun k _ e => by cases e; rfl)⟩
  unfold OwE
  rw [List.length_append, E.flat_append, ← h1]
  exact g1

/-- append where there is room, in a round of a range over a function. -/
theorem wpListIn_room {F : Fence} {k : Nat} {P : Program} {T : Type} {E : El T} {tS e : TypeId} {z : Value} {by' : Nat} (ht : P.underlying tS = some (.slice e)) (hi0 : (P.info? e).map (fun i => (i.zero, i.size, i.bytes)) = some (some z, E.sz, by'))
    (w : World) {ops : Array Oper} {rest : List Oper} {o : Oper} {a : Act} {Q : Exit → Act → World → Prop} (hgd : o.guard = none) (s x : Operand)
    (ho : o.op = .call { callee := .builtin .append, args := #[s, x], argTypes := #[tS, tS] }) (g n c : Nat) (l : List T) (hs : a.eval s = .slice (some ⟨g, 0, none⟩) n c) (hown : OwE E e w (.slice (some ⟨g, 0, none⟩) n c) l)
    (y : Value) (hx : a.eval x = y) (m : List T) (hy : Src P E.sz tS y m.length (E.flat m) w) (hroom : l.length + m.length ≤ c)
    (h : ∀ w', OwE E e w' (.slice (some ⟨g, 0, none⟩) (l.length + m.length) c) (l ++ m) → Turn (fun k => k = g) w w' → wpListIn F k P ops Q rest (a.put o.dst (.slice (some ⟨g, 0, none⟩) (l.length + m.length) c)) w') :
    wpListIn F k P ops Q (o :: rest) a w := by
  refine wpListIn_plain hgd fun K hK' => ?_
  obtain ⟨w', hrun, r1, r2⟩ := app_room (P := P) ht hi0 w tS o.type g n c l hown y m hy hroom
  unfold Oper.wpIn
  refine ⟨?_, ?_⟩
  · simp [Oper.about, ho, resolve, Target.leads, Sem.run_pure]
  · rw [Oper.semAt_plain F _ _ (by rw [ho]; intro c hc'; cases hc')]
    simp [execOp, ho, resolve, invoke, builtin, hs, hx, hrun, Result.andThen]
    exact hK' _ _ (h w' r1 r2)
/-- A row of one's own holds cells: no record of a loop is in it. -/
theorem holds_own {T : Type} {E : El T} {e : TypeId} {β : Type} (D : Nat) (v : β → Value) (f : β → List T) : Holds D (fun s W => OwE E e W (v s) (f s)) := fun s A B hs ht => by
  refine hs.turn ht fun k hk => ?_
  rintro ⟨_, o, ho, hc⟩
  rcases hs.form with ⟨e1, _⟩ | ⟨g, cap, cur, e1, hb, _⟩
  · rw [e1] at hk; cases hk
  · rw [e1] at hk
    cases hk
    rw [show A.heap[g]? = _ from hb] at ho
    cases ho
    cases hc
/-- Where a row of one's own turns alone, what holds no cells stays. -/
theorem own_still {w w' : World} {g B : Nat} (ht : Turn (fun k => k = g) w w') (hw : ∀ o, w.heap[g]? = some o → o.isCells = true) : Still B w w' := ⟨ht.size, fun k o _ hk ho => by
  by_cases e : k = g
  · subst e
    rw [hw o hk] at ho
    cases ho
  · exact (ht.block k (Array.getElem?_eq_some_iff.1 hk).1 e).trans hk⟩
theorem own_cells {T : Type} {E : El T} {e : TypeId} {w : World} {v : Value} {l : List T} {g : Nat} (h : OwE E e w v l) (hv : v.ownBlock = some g) : ∀ o, w.heap[g]? = some o → o.isCells = true := fun o ho => by
  rcases h.form with ⟨e1, _⟩ | ⟨g', cap, cur, e1, hb, _⟩
  · rw [e1] at hv; cases hv
  · rw [e1] at hv
    cases hv
    rw [show w.heap[g']? = _ from hb] at ho
    cases ho
    rfl
/-- What a range has told: as far as a place of the list, one by one. -/
theorem pre_at10 {A : Type} {L pre : List A} {y : A} (hp : pre ++ [y] <+: L) : L[pre.length]? = some y ∧ pre.length < L.length := by
  obtain ⟨r, hr⟩ := hp
  have h : L[pre.length]? = some y := by
    rw [← hr, List.append_assoc, List.getElem?_append_right (Nat.le_refl _), Nat.sub_self]; rfl
  exact ⟨h, (List.getElem?_eq_some_iff.1 h).1⟩
theorem box_ne10 {w : World} {i g : Nat} {t t' : TypeId} {cs cs' : Array Value} (h : Box w i t cs) (h' : Box w g t' cs') (ht : t ≠ t') : i ≠ g := by
  rintro rfl
  have e := (show w.heap[i]? = _ from h).symm.trans h'
  injection e with e
  injection e with _ e3
  exact ht e3
theorem box_not_own {T : Type} {E : El T} {e t : TypeId} {w : World} {v : Value} {l : List T} {i g : Nat} {cs : Array Value} (h : Box w i t cs) (h' : OwE E e w v l) (hv : v.ownBlock = some g) (ht : e ≠ t) : i ≠ g := by
  rintro rfl
  exact h'.not_box h ht hv

end Go.Proofs.Ytnapeckpjnbcgaa
