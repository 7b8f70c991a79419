/-
  Texts laid one behind the other: Dpr Inx R5h R5i Ek Emr Eu Zpl.
-/
import Derived.Test.YtgbphkbbedkepaaJocab
import Derived.Test.YtgbphkbbedkepaaJocam
import Derived.OwnWalkIn
import Derived.RangeFuncBound
import Derived.Test.YtgbphkbbedkepaaJocaa
import Derived.Sort.Grow
import Derived.Shelf.GgSortFunc.InsertionK
import Derived.Lib.SlicesCompact
import Derived.Shelf.SortM.Plain
import Derived.Shelf.SortM.SortNone
import Derived.Test.YtgbphkbbedkepaaProg

/-
  append onto a row of one's own that has room: the row stays where it is. No type is named here.
-/
namespace Go.Proofs.Ytgbphkbbedkepaa
open Go.RowKit

theorem run_app_room {P : Program} (w : World) (t tx ty e : TypeId) (i : TypeInfo) (ht : P.underlying t = some (.slice e)) (hi : P.info? e = some i)
    (g n cap : Nat) (xs : List Value) (hown : w.ownsRow 0 e i.size (.slice (some ⟨g, 0, none⟩) n cap) n xs) (x : Value) (m : Nat) (news : List Value) (hs : Src P i.size tx x m news w) (hroom : n + m ≤ cap) :
    ∃ w', (Builtin.append_ #[t, tx] ty #[.slice (some ⟨g, 0, none⟩) n cap, x]).run P w = .ok (.slice (some ⟨g, 0, none⟩) (n + m) cap) w' ∧ w'.ownsRow 0 e i.size (.slice (some ⟨g, 0, none⟩) (n + m) cap) (n + m) (xs ++ news) ∧ w.grownBy w' (some g) := by
  have hlen : (xs ++ news).length = (n + m) * i.size := by rw [List.length_append, hown.1, hs.newsLen, Nat.add_mul]
  rcases hown.2 with ⟨e1, _⟩ | ⟨g', cap', cur, e1, hb0, hg, hnc, hcm, hcs, htake⟩
  · cases e1
  · cases e1
    have hfit : n * i.size + news.length ≤ cur.size := by rw [hs.newsLen, hcs, ← Nat.add_mul]; exact Nat.mul_le_mul_right _ hroom
    have hst := run_storeCells_at P g (n * i.size) e news 0 cur w hg (by simpa using hfit) hs.one
    simp only [Nat.add_zero] at hst
    have hr : (Builtin.append_ #[t, tx] ty #[.slice (some ⟨g, 0, none⟩) n cap, x]).run P w =
        .ok (.slice (some ⟨g, 0, none⟩) (n + m) cap) (w.setRow g (cur.toList.take (n * i.size) ++ news ++ cur.toList.drop (n * i.size + news.length)).toArray) := by
      rcases hs.kind with ⟨e', hk⟩ | hk <;> simp [Builtin.append_, run_underlying ht, run_underlying hk, sizeOf, typeInfo, hi, hs.len, hs.cells, hroom, Addr.add_lit, hst]
    refine ⟨_, hr, ⟨hlen, .inr ⟨g, cap, _, rfl, hb0, setRow_heap w g cur _ e _ hg, hroom, hcm, ?_, ?_⟩⟩, ⟨rfl, rfl, rfl, by simp, fun k _ hk => setRow_other w g k _ (fun e => hk (by simp [e]))⟩⟩
    · simp only [List.size_toArray, List.length_append, List.length_take, List.length_drop, Array.length_toList]
      omega
    · rw [htake, ← hlen]
      exact List.take_left
theorem app_room {P : Program} {T : Type} {E : El T} {tS e : TypeId} {z : Value} {by' : Nat} (ht : P.underlying tS = some (.slice e)) (hi0 : (P.info? e).map (fun i => (i.zero, i.size, i.bytes)) = some (some z, E.sz, by'))
    (w : World) (tx ty : TypeId) (g n c : Nat) (l : List T) (hown : OwE E e w (.slice (some ⟨g, 0, none⟩) n c) l) (y : Value) (m : List T) (hy : Src P E.sz tx y m.length (E.flat m) w) (hroom : l.length + m.length ≤ c) :
    ∃ w', (Builtin.append_ #[tS, tx] ty #[.slice (some ⟨g, 0, none⟩) n c, y]).run P w = .ok (.slice (some ⟨g, 0, none⟩) (l.length + m.length) c) w' ∧ OwE E e w' (.slice (some ⟨g, 0, none⟩) (l.length + m.length) c) (l ++ m) ∧ Turn (fun k => k = g) w w' := by
  obtain ⟨i, hi, hz0, h1, h2⟩ := info_parts hi0
  obtain ⟨_, _, hsh⟩ := hown.shape
  obtain rfl : n = l.length := by injection hsh
  unfold OwE at hown
  rw [← h1] at hown hy
  obtain ⟨w', hr, g1, g2⟩ := run_app_room (P := P) w tS tx ty e i ht hi g _ c _ hown y m.length _ hy hroom
  refine ⟨w', hr, ?_, (Turn.refl _ w).grown g2 (fun k _ e => by cases e; rfl)⟩
  unfold OwE
  rw [List.length_append, E.flat_append, ← h1]
  exact g1

/-- append where there is room, in a round of a range over a function. -/
theorem wpListIn_room {F : Fence} {k : Nat} {P : Program} {T : Type} {E : El T} {tS e : TypeId} {z : Value} {by' : Nat} (ht : P.underlying tS = some (.slice e)) (hi0 : (P.info? e).map (fun i => (i.zero, i.size, i.bytes)) = some (some z, E.sz, by'))
    (w : World) {ops : Array Oper} {rest : List Oper} {o : Oper} {a : Act} {Q : Exit → Act → World → Prop} (hgd : o.guard = none) (s x : Operand)
    (ho : o.op = .call { callee := .builtin .append, args := #[s, x], argTypes := #[tS, tS] }) (g n c : Nat) (l : List T) (hs : a.eval s = .slice (some ⟨g, 0, none⟩) n c) (hown : OwE E e w (.slice (some ⟨g, 0, none⟩) n c) l)
    (y : Value) (hx : a.eval x = y) (m : List T) (hy : Src P E.sz tS y m.length (E.flat m) w) (hroom : l.length + m.length ≤ c)
    (h : ∀ w', OwE E e w' (.slice (some ⟨g, 0, none⟩) (l.length + m.length) c) (l ++ m) → Turn (fun k => k = g) w w' → wpListIn F k P ops Q rest (a.put o.dst (.slice (some ⟨g, 0, none⟩) (l.length + m.length) c)) w') :
    wpListIn F k P ops Q (o :: rest) a w := by
  refine wpListIn_plain hgd fun K hK' => ?_
  obtain ⟨w', hrun, r1, r2⟩ := app_room (P := P) ht hi0 w tS o.type g n c l hown y m hy hroom
  unfold Oper.wpIn
  refine ⟨?_, ?_⟩
  · simp [Oper.about, ho, resolve, Target.leads, Sem.run_pure]
  · rw [Oper.semAt_plain F _ _ (by rw [ho]; intro c hc'; cases hc')]
    simp [execOp, ho, resolve, invoke, builtin, hs, hx, hrun, Result.andThen]
    exact hK' _ _ (h w' r1 r2)
/-- A row of one's own holds cells: no record of a loop is in it. -/
theorem holds_own {T : Type} {E : El T} {e : TypeId} {β : Type} (D : Nat) (v : β → Value) (f : β → List T) : Holds D (fun s W => OwE E e W (v s) (f s)) := fun s A B hs ht => by
  refine hs.turn ht fun k hk => ?_
  rintro ⟨_, o, ho, hc⟩
  rcases hs.form with ⟨e1, _⟩ | ⟨g, cap, cur, e1, hb, _⟩
  · rw [e1] at hk; cases hk
  · rw [e1] at hk
    cases hk
    rw [show A.heap[g]? = _ from hb] at ho
    cases ho
    cases hc
/-- Where a row of one's own turns alone, what holds no cells stays. -/
theorem own_still {w w' : World} {g B : Nat} (ht : Turn (fun k => k = g) w w') (hw : ∀ o, w.heap[g]? = some o → o.isCells = true) : Still B w w' := ⟨ht.size, fun k o _ hk ho => by
  by_cases e : k = g
  · subst e
    rw [hw o hk] at ho
    cases ho
  · exact (ht.block k (Array.getElem?_eq_some_iff.1 hk).1 e).trans hk⟩
theorem own_cells {T : Type} {E : El T} {e : TypeId} {w : World} {v : Value} {l : List T} {g : Nat} (h : OwE E e w v l) (hv : v.ownBlock = some g) : ∀ o, w.heap[g]? = some o → o.isCells = true := fun o ho => by
  rcases h.form with ⟨e1, _⟩ | ⟨g', cap, cur, e1, hb, _⟩
  · rw [e1] at hv; cases hv
  · rw [e1] at hv
    cases hv
    rw [show w.heap[g']? = _ from hb] at ho
    cases ho
    rfl
/-- What a range has told: as far as a place of the list, one by one. -/
theorem pre_at10 {A : Type} {L pre : List A} {y : A} (hp : pre ++ [y] <+: L) : L[pre.length]? = some y ∧ pre.length < L.length := by
  obtain ⟨r, hr⟩ := hp
  have h : L[pre.length]? = some y := by
    rw [← hr, List.append_assoc, List.getElem?_append_right (Nat.le_refl _), Nat.sub_self]; rfl
  exact ⟨h, (List.getElem?_eq_some_iff.1 h).1⟩
theorem box_ne10 {w : World} {i g : Nat} {t t' : TypeId} {cs cs' : Array Value} (h : Box w i t cs) (h' : Box w g t' cs') (ht : t ≠ t') : i ≠ g := by
  rintro rfl
  have e := (show w.heap[i]? = _ from h).symm.trans h'
  injection e with e
  injection e with _ e3
  exact ht e3
theorem box_not_own {T : Type} {E : El T} {e t : TypeId} {w : World} {v : Value} {l : List T} {i g : Nat} {cs : Array Value} (h : Box w i t cs) (h' : OwE E e w v l) (hv : v.ownBlock = some g) (ht : e ≠ t) : i ≠ g := by
  rintro rfl
  exact h'.not_box h ht hv

end Go.Proofs.Ytgbphkbbedkepaa

/-
  append onto a row of one's own, in a round of a range over a function: the row may move. No type is named here.
-/
namespace Go.Proofs.Ytgbphkbbedkepaa
open Go.RowKit

/-- append in a round of a range over a function. -/
theorem wpListIn_appE {F : Fence} {k : Nat} {P : Program} {T : Type} {E : El T} {tS e : TypeId} {z : Value} {by' : Nat} (ht : P.underlying tS = some (.slice e)) (hi0 : (P.info? e).map (fun i => (i.zero, i.size, i.bytes)) = some (some z, E.sz, by')) (hz : z.cells.size = E.sz)
    (w : World) {ops : Array Oper} {rest : List Oper} {o : Oper} {a : Act} {Q : Exit → Act → World → Prop} (hgd : o.guard = none) (s x : Operand) (tx : TypeId)
    (ho : o.op = .call { callee := .builtin .append, args := #[s, x], argTypes := #[tS, tx] }) (v : Value) (l : List T) (hs : a.eval s = v) (hown : OwE E e w v l)
    (y : Value) (hx : a.eval x = y) (m : List T) (hy : Src P E.sz tx y m.length (E.flat m) w) (hl : l.length + m.length ≤ maxLen) (hb : (l.length + m.length) * by' ≤ 140737488355328)
    (h : ∀ A n c w', OwE E e w' (.slice A n c) (l ++ m) → Turn (fun k => v.ownBlock = some k) w w' → ((Value.slice A n c).ownBlock = v.ownBlock ∨ (Value.slice A n c).ownBlock = some w.heap.size) → wpListIn F k P ops Q rest (a.put o.dst (.slice A n c)) w') :
    wpListIn F k P ops Q (o :: rest) a w := by
  refine wpListIn_plain hgd fun K hK' => ?_
  obtain ⟨i, hi, hz0, h1, h2⟩ := info_parts hi0
  unfold OwE at hown
  rw [← h1] at hown hy
  obtain ⟨A, n, c, w', hr, g1, g2, g3⟩ := run_app (P := P) w tS tx o.type e i z ht hi hz0 (by rw [h1]; exact hz) v l.length _ hown y m.length _ hy hl (by rw [h2]; exact hb)
  unfold Oper.wpIn
  refine ⟨?_, ?_⟩
  · simp [Oper.about, ho, resolve, Target.leads, Sem.run_pure]
  · rw [Oper.semAt_plain F _ _ (by rw [ho]; intro c hc'; cases hc')]
    simp only [execOp, ho, resolve, invoke, builtin, Sem.run_bind, Sem.run_pure, Result.andThen_ok, List.map_toArray, List.map_cons, List.map_nil, hs, hx, hr]
    refine hK' _ _ (h A n c w' ?_ ((Turn.refl _ w).grown g2 (fun k _ e => e)) g3)
    unfold OwE
    rw [List.length_append, E.flat_append, ← h1]
    exact g1
/-- Where what turns holds cells, what holds none stays. -/
theorem keeps_turn {S : Nat → Prop} {A B : World} (h : Turn S A B) (hc : ∀ k, S k → ∀ o, A.heap[k]? = some o → o.isCells = true) : KeepsOthers A B := ⟨h.size, fun k o hk ho => by
  by_cases e : S k
  · rw [hc k e o hk] at ho
    cases ho
  · exact (h.block k (Array.getElem?_eq_some_iff.1 hk).1 e).trans hk⟩

end Go.Proofs.Ytgbphkbbedkepaa

/-
  Stage 20: the program's Over.
-/
namespace Go.Proofs.Ytgbphkbbedkepaa
open Go.RowKit Go.Shelf
attribute [local go_sem] Oper.semAt_some wide_fn

set_option maxRecDepth 100000

/-- Where the walk is to stop. -/
def Halt20 (p : Prop) : Prop := p
theorem halt20 {p : Prop} (h : Halt20 p) : p := h
/-- In the range: the hours' boxes, the list's box, the list, whose row is new since block B. -/
structure OI20 (wb : World) (bf bt lb : Nat) (lo hi : Int) (B : Nat) (v : Value) (L : List N20) (V : World) : Prop where
  f : Box V bf 2 #[.int .i64 lo]
  t : Box V bt 2 #[.int .i64 hi]
  b : Box V lb 28 #[v]
  own : OwE EN20 32 V v L
  new : ∀ k, v.ownBlock = some k → B ≤ k
  ge : B ≤ V.heap.size
  low : wb.heap.size ≤ B
  turn : Turn (fun k => k = lb) wb V
theorem OI20.later {wb V V' : World} {bf bt lb B : Nat} {lo hi : Int} {v : Value} {L : List N20} (h : OI20 wb bf bt lb lo hi B v L V) (ht : Turn (fun _ => False) V V') : OI20 wb bf bt lb lo hi B v L V' :=
  ⟨h.f.turn ht (fun f => f), h.t.turn ht (fun f => f), h.b.turn ht (fun f => f), h.own.later ht, h.new, Nat.le_trans h.ge ht.size, h.low, h.turn.trans ht (fun _ _ f => f.elim)⟩
theorem OI20.odd {wb A V : World} {bf bt lb B D : Nat} {lo hi : Int} {v : Value} {L : List N20} (h : OI20 wb bf bt lb lo hi B v L A) (hD : wb.heap.size ≤ D) (ht : Turn (odd D A) A V) : OI20 wb bf bt lb lo hi B v L V :=
  ⟨h.f.odd ht, h.t.odd ht, h.b.odd ht, holds_own D (fun _ : Unit => v) (fun _ => L) () A V h.own ht, h.new, Nat.le_trans h.ge ht.size, h.low, h.turn.trans ht (fun k hk e => by have := e.1; omega)⟩
/-- One more entry in the list. -/
theorem OI20.app {wb V w6 : World} {bf bt lb B : Nat} {lo hi : Int} {L : List N20} {v : Value} {e : N20} {A5 : Option Addr} {n5 c5 : Nat} (h : OI20 wb bf bt lb lo hi B v L V)
    (hbs : bf < B ∧ bt < B ∧ lb < B ∧ bf ≠ lb ∧ bt ≠ lb) (hwb : wb.heap.size ≤ B) (ho : OwE EN20 32 w6 (.slice A5 n5 c5) (L ++ [e])) (ht : Turn (fun k => v.ownBlock = some k) V w6)
    (hc : (Value.slice A5 n5 c5).ownBlock = v.ownBlock ∨ (Value.slice A5 n5 c5).ownBlock = some V.heap.size) :
    OI20 wb bf bt lb lo hi B (.slice A5 n5 c5) (L ++ [e]) (w6.setCell ⟨lb, 0, none⟩ (.slice A5 n5 c5)) ∧ Box w6 lb 28 #[v] ∧ KeepsOthers V (w6.setCell ⟨lb, 0, none⟩ (.slice A5 n5 c5)) ∧ Turn (fun k => k = lb ∨ B ≤ k) V (w6.setCell ⟨lb, 0, none⟩ (.slice A5 n5 c5)) := by
  have hs : Turn (fun k => k = lb) w6 (w6.setCell ⟨lb, 0, none⟩ (.slice A5 n5 c5)) := Turn.setCell (S := fun k => k = lb) (p := ⟨lb, 0, none⟩) (Turn.refl _ w6) (fun _ => rfl) _
  have far : ∀ {i : Nat} {t : TypeId} {cs : Array Value}, Box V i t cs → i < B → Box w6 i t cs := fun hb hi => hb.turn ht (fun e => by have := h.new _ e; omega)
  have b0 := far h.f hbs.1; have b1 := far h.t hbs.2.1; have b2 := far h.b hbs.2.2.1
  have hne : ∀ k, (Value.slice A5 n5 c5).ownBlock = some k → k ≠ lb := fun k hk e => ho.not_box b2 (by decide) (by rw [hk, e])
  have hge : B ≤ w6.heap.size := Nat.le_trans h.ge ht.size
  refine ⟨⟨b0.turn hs hbs.2.2.2.1, b1.turn hs hbs.2.2.2.2, b2.set 0 _, ho.turn hs hne, fun k hk => ?_, Nat.le_trans hge hs.size, h.low, ?_⟩, b2, (keeps_turn ht (fun k hk o hok => own_cells h.own hk o hok)).trans (KeepsOthers.setCell _ _ _), ?_⟩
  · rcases hc with e1 | e1
    · rw [e1] at hk; exact h.new k hk
    · rw [e1] at hk
      injection hk with hk
      rw [← hk]; exact h.ge
  · exact (h.turn.trans ht (fun k hk e => by have := h.new k e; omega)).trans hs (fun k _ e => e)
  · exact (ht.mono (fun k _ e => .inr (h.new k e))).trans hs (fun k _ e => .inl e)
theorem over_none20 {l : List N20} {lo hi : Int} (h : hi ≤ lo) : over20 l lo hi = [] := by
  unfold over20
  rw [List.filter_eq_nil_iff]
  intro e _ c
  rw [decide_eq_true_iff] at c
  omega
theorem kv_snd20 (l : List N20) : (kv20 l).map (·.2) = l := by
  unfold kv20
  rw [List.map_map]
  exact List.map_id l
theorem kv_split20 {m : List N20} {pre : List (Int × N20)} {k : Int} {e : N20} (h : pre ++ [(k, e)] <+: kv20 m) : ∃ r, m = pre.map (·.2) ++ e :: r ∧ k = (span19 e.p).1 ∧ pre.length < m.length := by
  obtain ⟨r, hr⟩ := h
  have h1 := congrArg (List.map (·.2)) hr
  rw [kv_snd20, List.append_assoc, List.map_append] at h1
  have h2 : (k, e) ∈ kv20 m := by rw [← hr]; simp
  refine ⟨r.map (fun x : Int × N20 => x.2), h1.symm, (kv_mem20 h2).2, ?_⟩
  have h3 := congrArg List.length hr
  rw [kv_len20] at h3
  simp at h3
  omega

set_option maxHeartbeats 8000000 in
theorem over_gen20 (a : Option Addr) {w : World} {l : List N20} (lo hi : Int) (har : ∀ (to : Int) W, to = 9223372036854775807 → Turn (fun _ => False) w W → Calls Try.prog 32 #[.pointer a, .int .i64 lo] W fun e w' => Around20 W (from20 l lo) to (kv20 l) e w') (hok : Ok20 l) (hl : l.length ≤ 5000) :
    Calls Try.prog 15 #[.pointer a, .int .i64 lo, .int .i64 hi] w fun e w' => Ents20 w (over20 l lo hi) e w' := by
  obtain ⟨bf, hbf⟩ : ∃ b, b = w.heap.size := ⟨_, rfl⟩
  obtain ⟨bt, hbt⟩ : ∃ b, b = w.heap.size + 1 := ⟨_, rfl⟩
  obtain ⟨w0, hw0⟩ : ∃ w0, w0 = (w.alloc (.cells #[.int .i64 lo] 2)).alloc (.cells #[.int .i64 hi] 2) := ⟨_, rfl⟩
  have HT0 : Hid (Turn (fun _ => False) w w0) := by rw [hw0]; exact ((Turn.refl _ w).alloc _).alloc _
  have HBF : Hid (Box w0 bf 2 #[.int .i64 lo]) := by rw [hw0, hbf]; exact (Box.new w _ _).alloc _
  have HBT : Hid (Box w0 bt 2 #[.int .i64 hi]) := by
    have h := Box.new (w.alloc (.cells #[.int .i64 lo] 2)) 2 #[.int .i64 hi]
    rw [World.size_alloc] at h
    rw [hw0, hbt]; exact h
  have HSZ0 : Hid (w0.heap.size = w.heap.size + 2) := by show w0.heap.size = _; rw [hw0, World.size_alloc, World.size_alloc]
  have c0 := HBF.out.cell 0
  have c1 := HBT.out.cell 0
  rw [hw0] at c0 c1
  have HBB : Hid (bf = w.heap.size ∧ bt = w.heap.size + 1) := ⟨hbf, hbt⟩
  have HW0 := Lib.hid hw0
  clear hw0
  refine (callsIn_wide (n := 5)).1 ?_
  refine callsIn_of_wp_marks Try.func15 rfl trivial ?_ rfl
  simp only [Try.ntmps15, List.size_toArray, List.length_cons, List.length_nil, Nat.reduceAdd, Nat.reduceSub, Array.replicate_succ, Array.replicate_zero, List.push_toArray, List.append_toArray, List.nil_append, List.cons_append]
  refine wpIn_wide.2 ?_
  rw [hbf] at c0; rw [hbt] at c1
  by_cases hlh : lo < hi
  · obtain ⟨m, hrm, hmo, hml, hmf⟩ := over_range20 hok hlh
    obtain ⟨to, hto⟩ : ∃ to : Int, to = 9223372036854775807 := ⟨_, rfl⟩
    rw [← hto] at hrm
    have HAR : Hid (∀ W, Turn (fun _ => False) w0 W → Calls Try.prog 32 #[.pointer a, .int .i64 lo] W fun e w' => Around20 W (from20 l lo) to (kv20 l) e w') := fun W ht => har to W hto (HT0.out.trans ht (fun _ _ f => f))
    have HRM := Lib.hid hrm; have HMO := Lib.hid hmo; have HMF := Lib.hid hmf
    have HML : Hid (m.length ≤ 5000) := Nat.le_trans hml hl
    generalize from20 l lo = fr at *
    clear har hok hl hrm hmo hml hmf hto hbf hbt
    go_wp2
    go_step3
    go_wp2
    go_step3
    go_wp2_with fail
    obtain ⟨w1, hw1⟩ : ∃ w1, w1 = w0.alloc (.cells #[.slice none 0 0] 28) := ⟨_, rfl⟩
    obtain ⟨lb, hlb⟩ : ∃ b, b = w.heap.size + 1 + 1 := ⟨_, rfl⟩
    have HT1 : Hid (Turn (fun _ => False) w0 w1) := by rw [hw1]; exact (Turn.refl _ w0).alloc _
    have HBL : Hid (Box w1 lb 28 #[.slice none 0 0]) := by
      have h := Box.new w0 28 #[.slice none 0 0]
      rw [HSZ0.out] at h
      rw [hw1, hlb]; exact h
    have HLB : Hid (lb = w.heap.size + 2) := hlb
    rw [show (((w.alloc (.cells #[.int .i64 lo] 2)).alloc (.cells #[.int .i64 hi] 2)).alloc (.cells #[.slice none 0 0] 28)) = w1 by rw [hw1, HW0.out], ← hlb, ← HBB.out.2, ← HBB.out.1]
    refine (HAR.out w1 HT1.out).mono ?_
    rintro e w3 ⟨qr, qt, qf, q1, q2, rfl, hra, hnew, t3⟩
    rw [hw1] at hnew
    have HSZ3 : Hid (lb < w3.heap.size) := Nat.lt_of_lt_of_le HBL.out.lt t3.size
    have HSZ1 : Hid (w1.heap.size = lb + 1) := by show w1.heap.size = _; rw [hw1, World.size_alloc, HSZ0.out, hlb]
    rw [← hw1] at hnew
    have HQN : Hid ((lb < qr ∧ qr < w3.heap.size) ∧ (lb < qt ∧ qt < w3.heap.size) ∧ (lb < qf ∧ qf < w3.heap.size) ∧ (lb < q1 ∧ q1 < w3.heap.size) ∧ (lb < q2 ∧ q2 < w3.heap.size)) := by
      have h1 := HSZ1.out
      obtain ⟨A, x, hs, -⟩ := hra.src
      have k1 := hra.rest.lt; have k2 := hra.top.lt; have k3 := hra.low.lt; have k4 := hs.root.lt; have k5 := hs.fun'.lt
      exact ⟨⟨by omega, k1⟩, ⟨by omega, k2⟩, ⟨by omega, k3⟩, ⟨by omega, k4⟩, ⟨by omega, k5⟩⟩
    have HB3 := Lib.hid (HBL.out.turn t3 (fun f => f))
    have HBASE : Hid (ome.Base (fun k => k = lb ∨ k = w3.heap.size + 1) w3) := ⟨fun g cs hb e => by
      rcases e with e | e
      · exact box_ne10 hb HB3.out (by decide) e
      · have := hb.lt; omega⟩
    have HFE : Hid (Feeds5 4 69 #[.pointer (some ⟨qr, 0, none⟩), .pointer (some ⟨qt, 0, none⟩)] ome.prs (fun k => k = lb ∨ k = w3.heap.size + 1) (fun pre y _ => pre ++ [y] <+: kv20 m) (fun xs => xs = kv20 m) (fun pre => pre <+: kv20 m) w3) := by
      have h := HQN.out
      have hfe := ome.range_feeds5 4 hra (fun k => k = lb ∨ k = w3.heap.size + 1) (by omega) (by omega) (by omega) (by omega) (by omega) HBASE.out
      rw [HRM.out] at hfe
      exact hfe
    have HTW : Hid (Turn (fun _ => False) w w3) := HT0.out.trans (HT1.out.trans t3 (fun _ _ f => f)) (fun _ _ f => f)
    have HI0 : Hid (∀ W, Turn (fun _ => False) w3 W → OI20 w3 bf bt lb lo hi W.heap.size (.slice none 0 0) [] W) := fun W ht =>
      ⟨(HBF.out.turn (HT1.out.trans t3 (fun _ _ f => f)) (fun f => f)).turn ht (fun f => f), (HBT.out.turn (HT1.out.trans t3 (fun _ _ f => f)) (fun f => f)).turn ht (fun f => f), HB3.out.turn ht (fun f => f), OwE.nil _, (fun k e => by simp [Value.ownBlock] at e), Nat.le_refl _, ht.size, ht.mono (fun _ _ f => f.elim)⟩
    clear hra hnew t3 hw1 hlb c0 c1 HAR HW0
    go_wp2_with fail
    refine (wpIn_wide (n := 5)).1 ?_
    unfold ome.RngV
    refine' over8 (n := 5) (by omega) (gf := 69) (lb := #[.pointer (some ⟨qr, 0, none⟩), .pointer (some ⟨qt, 0, none⟩)]) rfl (enters_of Try.func69 (by kernel_rfl) rfl)
      HFE.out (Turn.refl _ _) (Or.inr rfl) ?hS2 (fun _ => rfl) _
      (fun N (pre : List (Int × N20)) V => ∃ v, OI20 w3 bf bt lb lo hi N v ((pre.map (·.2)).filter (asked20 lo hi)) V)
      (fun c (_ : List (Int × N20)) V => c = .exit 0 ∧ ∃ N v, OI20 w3 bf bt lb lo hi N v (over20 l lo hi) V)
      ?hI ?hIx ?h0
      (fun N pre y q V => (∃ v, OI20 w3 bf bt lb lo hi N v ((pre.map (·.2)).filter (asked20 lo hi)) V) ∧ Box V q 32 (ecells20 y.2) ∧ pre ++ [y] <+: kv20 m)
      ?hax ?assign ?body ?done ?stop
    case hS2 =>
      intro k hk
      have := HSZ3.out
      rcases hk with h | h <;> omega
    case hI => exact fun N pre A B ⟨v, h⟩ ht => ⟨v, h.odd (Nat.le_refl _) ht⟩
    case hIx => exact fun c pre A B ⟨h1, N, v, h⟩ ht => ⟨h1, N, v, h.odd (Nat.le_refl _) ht⟩
    case hax => exact fun N pre y q A B ⟨⟨v, h1⟩, h2, h3⟩ ht => ⟨⟨v, h1.odd (Nat.le_refl _) ht⟩, h2.odd ht, h3⟩
    case h0 => exact fun W ht => ⟨_, HI0.out W ht⟩
    case assign =>
      rintro l0 N pre x Wa K hN ⟨v, hi0⟩ hgv hK
      have HK := Lib.hid hK
      have HT : Hid (Turn (fun _ => False) Wa (Wa.alloc (.cells (ecells20 x.2) 32))) := (Turn.refl _ Wa).alloc _
      have HBX : Hid ((∃ v, OI20 w3 bf bt lb lo hi N v ((pre.map (·.2)).filter (asked20 lo hi)) (Wa.alloc (.cells (ecells20 x.2) 32))) ∧ Box (Wa.alloc (.cells (ecells20 x.2) 32)) Wa.heap.size 32 (ecells20 x.2) ∧ pre ++ [x] <+: kv20 m) := ⟨⟨v, hi0.later HT.out⟩, Box.new Wa _ _, hgv⟩
      clear hK hi0 hgv
      gi_wp2
      generalize Wa.alloc (.cells (ecells20 x.2) 32) = V2 at *
      generalize Wa.heap.size = p at *
      exact HK.out p _ HBX.out HT.out
    case body =>
      rintro l0 N pre y q V hN ⟨⟨v, hoi⟩, hq, hgv⟩
      obtain ⟨k, e⟩ := y
      have hq : Box V q 32 (ecells20 e) := hq
      obtain ⟨r, hsp, hk, hlt⟩ := kv_split20 hgv
      obtain ⟨A9, c9, rfl⟩ := hoi.own.shape
      obtain ⟨P, hP⟩ : ∃ P, P = (pre.map (·.2) : List N20) := ⟨_, rfl⟩
      rw [← hP] at hoi hsp
      have HPL : Hid ((P.filter (asked20 lo hi)).length ≤ 5000) := by
        have h1 : (P.filter (asked20 lo hi)).length ≤ P.length := List.length_filter_le _ _
        have h2 : P.length = pre.length := by rw [hP, List.length_map]
        have h3 := HML.out
        show _ ≤ _
        omega
      have HNX : Hid (((pre ++ [((k, e) : Int × N20)]).map (·.2)).filter (asked20 lo hi) = P.filter (asked20 lo hi) ++ if asked20 lo hi e then [e] else []) := by
        show _ = _
        rw [List.map_append, ← hP]
        exact filter_put20 P e
      have HEND : Hid (hi ≤ (span19 e.p).1 → P.filter (asked20 lo hi) = over20 l lo hi) := fun h => by
        have h2 := asked_end20 (lo := lo) (by rw [← hsp]; exact HMO.out) h
        rw [← hsp, HMF.out] at h2
        exact h2.symm
      have HIN := Lib.hid (fun h1 h2 => asked_in20 (lo := lo) (hi := hi) (e := e) h1 h2)
      have HOUT := Lib.hid (fun h1 => asked_out20 (lo := lo) (hi := hi) (e := e) h1)
      rw [← hk] at HEND HIN
      obtain ⟨a0, a1, a2, a3, a4, a5⟩ := box_n20 hq
      have HQ := Lib.hid hq; have HOI := Lib.hid hoi; have HNN := Lib.hid hN
      have HSP : Hid (∀ W, Calls Try.prog 30 #[tv19 e.p] W fun e' w' => e' = .returned (.tuple #[.int .i64 k, .int .i64 (span19 e.p).2]) ∧ Turn (fun _ => False) W w') := fun W => by rw [hk]; exact span_any19 e.p W
      generalize (span19 e.p).2 = s2 at *
      generalize P.filter (asked20 lo hi) = L at *
      obtain ⟨n9, hn9⟩ : ∃ n, n = L.length := ⟨_, rfl⟩
      rw [← hn9] at HOI HPL
      have HN9 := Lib.hid hn9
      clear hq hoi hgv hsp hk hlt hP hn9 hN
      gi_wp2_with fail
      refine (CallsIn.inRound l0 (callsIn_wide.2 (HSP.out V))).mono ?_
      rintro e' w2 ⟨rfl, t2⟩
      have HO2 := Lib.hid (HOI.out.later t2)
      have HT2 := Lib.hid t2
      have f0 := HO2.out.f.cell 0
      have f1 := HO2.out.t.cell 0
      have HQ2 := Lib.hid (HQ.out.turn t2 (fun f => f))
      clear t2 a0 a1 a2 a3 a4 a5
      by_cases h1 : s2 ≤ lo
      · have HX := Lib.hid (HNX.out.trans (by rw [HOUT.out h1, if_neg (by decide), List.append_nil]))
        gi_wp2
        exact ⟨Still.turned HT2.out, HT2.out.none, _, by rw [HX.out]; exact HO2.out⟩
      · by_cases h2 : hi ≤ k
        · have HX := Lib.hid (HEND.out h2)
          gi_wp2
          exact ⟨Still.turned HT2.out, rfl, _, _, by rw [← HX.out]; exact HO2.out⟩
        · have HX := Lib.hid (HNX.out.trans (by rw [HIN.out (by omega) (by omega), if_pos rfl]))
          have HO3 := Lib.hid (HO2.out.later ((Turn.refl (fun _ => False) w2).alloc (.cells (ecells20 e) 32)))
          have HSR : Hid (Src Try.prog EN20.sz 28 (.slice (some ⟨w2.heap.size, 0, none⟩) 1 1) 1 (EN20.flat [e]) (w2.alloc (.cells (ecells20 e) 32))) := (one_row EN20 32 w2 e).src Try.underlying28
          obtain ⟨a0, a1, a2, a3, a4, a5⟩ := box_n20 HQ2.out
          have b0 := HO2.out.b.cell 0
          have HLN : Hid (L.length + 1 ≤ 5001) := by show _ ≤ _; have := HPL.out; have := HN9.out; omega
          gi_wp2_with (gi_at_builtin; refine halt20 ?_)
          show wpListIn _ _ _ _ _ _ _ _
          refine wpListIn_appE Try.underlying28 ent_info20 ent_zero20 _ rfl _ _ _ rfl _ L rfl HO3.out.own _ rfl [e] HSR.out (by have := HLN.out; simp only [maxLen, List.length_cons, List.length_nil]; omega) (by have := HLN.out; simp only [List.length_cons, List.length_nil]; omega) ?_
          intro A5 n5 c5 w6 ho ht hc
          have HAP := Lib.hid (HO3.out.app (by have h1 := HBB.out; have h2 := HLB.out; have h3 := HNN.out; have h4 := HSZ3.out; omega) (by have h3 := HNN.out; omega) ho ht hc)
          have g0 := HAP.out.2.1.cell 0
          have g1 := HAP.out.2.1.free 0
          have HTA : Hid (Turn (fun _ => False) V (w2.alloc (.cells (ecells20 e) 32))) := HT2.out.alloc _
          clear ho ht hc a0 a1 a2 a3 a4 a5 b0 f0 f1
          gi_wp2
          exact ⟨Still.others ((KeepsOthers.turned HTA.out).trans HAP.out.2.2.1), HTA.out.none.trans (HAP.out.2.2.2.mono (fun k _ e => e.imp .inl id)) (fun _ _ e => e), _, by rw [HX.out]; exact HAP.out.1⟩
    case stop =>
      rintro D c0 pre V hD _ ⟨rfl, N, v, hoi⟩ hK
      refine wpIn_wide.2 ?_
      obtain ⟨A9, c9, rfl⟩ := hoi.own.shape
      have c3 := hoi.b.cell 0
      have HOI := Lib.hid hoi; have HKD := Lib.hid hK; have HDD := Lib.hid hD
      clear hoi hK hD
      obtain ⟨n9, hn9⟩ : ∃ n, n = (over20 l lo hi).length := ⟨_, rfl⟩
      rw [← hn9] at HOI c3
      clear hn9
      go_wp2
      have k1 : V.heap[D]? = some (.deferred (some [])) := HKD.out
      have u1 : Turn (fun k => k = D) V (V.putObj D (.deferred none)) := Turn.putObj _ D _ rfl
      have h9 := HOI.out.odd (D := w3.heap.size) (Nat.le_refl _) (Turn.putObj V D (.deferred none) ⟨HDD.out, _, k1, rfl⟩)
      refine ⟨by simp, .inl ⟨_, _, rfl, run_takeDeferred k1, ?_⟩⟩
      refine ⟨.slice A9 n9 c9, ?_, ?_⟩
      · simp [results, Try.f15, go_sem]
      · exact ⟨_, rfl, h9.own.rd, HTW.out.fresh h9.turn (fun k e => by rw [e]; have := HLB.out; omega), fun k hk => by have h1 := h9.new k hk; have h2 := h9.low; have h3 := HTW.out.size; omega⟩
    case done =>
      rintro D N xs V hD hA ⟨v, hoi⟩ hK
      have hA2 : xs = kv20 m := hA
      rw [hA2, kv_snd20, HMF.out] at hoi
      clear hA hA2
      obtain ⟨A9, c9, rfl⟩ := hoi.own.shape
      have c3 := hoi.b.cell 0
      have HOI := Lib.hid hoi; have HKD := Lib.hid hK; have HDD := Lib.hid hD
      clear hoi hK hD
      obtain ⟨n9, hn9⟩ : ∃ n, n = (over20 l lo hi).length := ⟨_, rfl⟩
      rw [← hn9] at HOI c3
      clear hn9
      go_wp2
      have k1 : V.heap[D]? = some (.deferred (some [])) := HKD.out
      have u1 : Turn (fun k => k = D) V (V.putObj D (.deferred none)) := Turn.putObj _ D _ rfl
      have h9 := HOI.out.odd (D := w3.heap.size) (Nat.le_refl _) (Turn.putObj V D (.deferred none) ⟨HDD.out, _, k1, rfl⟩)
      refine ⟨by simp, .inl ⟨_, _, rfl, run_takeDeferred k1, ?_⟩⟩
      refine ⟨.slice A9 n9 c9, ?_, ?_⟩
      · simp [results, Try.f15, go_sem]
      · exact ⟨_, rfl, h9.own.rd, HTW.out.fresh h9.turn (fun k e => by rw [e]; have := HLB.out; omega), fun k hk => by have h1 := h9.new k hk; have h2 := h9.low; have h3 := HTW.out.size; omega⟩
  · have HX := Lib.hid (over_none20 (l := l) (lo := lo) (hi := hi) (by omega))
    go_wp2
    go_step3
    go_wp2
    try rw [Exit.noGoto_ret]
    refine ⟨.slice none 0 0, ?_, ?_⟩
    · simp [results, Try.f15, go_sem]
    · exact ⟨_, rfl, by rw [HX.out]; exact RdE.nil _, by rw [← HW0.out]; exact HT0.out, fun k hk => by simp [Value.ownBlock] at hk⟩

theorem over_any20 {w : World} {F : Nat → Prop} {g : Nat} {l : List N20} (lo hi : Int) (hm : CM20 w F g l) (hok : Ok20 l) (hl : l.length ≤ 5000) :
    Calls Try.prog 15 #[.pointer (some ⟨g, 0, none⟩), .int .i64 lo, .int .i64 hi] w fun e w' => Ents20 w (over20 l lo hi) e w' :=
  over_gen20 _ lo hi (fun to _ hto ht => around_any20 lo _ to (hm.later ht).mp rfl hto) hok hl
theorem over_nil20 (lo hi : Int) (w : World) : Calls Try.prog 15 #[.pointer none, .int .i64 lo, .int .i64 hi] w fun e w' => Ents20 w [] e w' :=
  over_gen20 none (l := []) lo hi (fun to W hto _ => around_nil20 lo to W hto) Ok20.nil (by decide)

end Go.Proofs.Ytgbphkbbedkepaa

/-
  Stage 20: the program's All.
-/
namespace Go.Proofs.Ytgbphkbbedkepaa
open Go.RowKit Go.Shelf
attribute [local go_sem] Oper.semAt_some wide_fn

set_option maxRecDepth 100000

theorem Feeds5.feeds {α : Type} {n g : Nat} {lb : Array Value} {encs : α → Array Value} {S : Nat → Prop} {Gv : List α → α → World → Prop} {All Part : List α → Prop} {w : World} (h : Feeds5 n g lb encs S Gv All Part w) : Feeds n g lb encs S Gv All Part w :=
  fun l J Jx W hW hl hS hJ hJx hY h0 => (h l (fun _ => J) Jx W hW hl hS (fun _ => hJ) hJx
    (fun _ pre x W1 _ hj hg => (hY pre x W1 hj hg).mono fun _ _ hr => hr.imp (fun ⟨a, b, c, d⟩ => ⟨a, b, c.mono (fun _ _ s => .inl s), d⟩) id)
    (fun _ ht => hJ _ _ _ h0 ht.none)).mono fun _ _ ⟨h1, h2⟩ => ⟨h1, h2.imp (fun ⟨_, xs, a, b⟩ => ⟨xs, a, b⟩) id⟩

theorem pre_snd20 {l : List N20} {pre : List (Int × N20)} {y : Int × N20} (h : pre ++ [y] <+: kv20 l) : (pre.map (·.2)) ++ [y.2] <+: l := by
  obtain ⟨r, hr⟩ := h
  have h1 := congrArg (List.map (·.2)) hr
  rw [kv_snd20, List.map_append, List.map_append] at h1
  exact ⟨r.map (fun x : Int × N20 => x.2), h1⟩

/-- What All makes, of a map whose list is L. -/
structure AllAt20 (w' : World) (qa q1 q2 : Nat) (l : List N20) : Prop where
  rest : Box w' qa 70 #[ome.RisV q1 q2]
  src : ∃ A x, ome.Src w' q1 q2 A 56 #[] x (fun _ => false) ∧ x.flat = kv20 l

set_option maxHeartbeats 4000000 in
theorem all_feeds20 (n : Nat) {w : World} {qa q1 q2 : Nat} {L : List N20} (h : AllAt20 w qa q1 q2 L) (S : Nat → Prop) (h1 : ¬ S qa) (h2 : ¬ S q1) (h3 : ¬ S q2) (hB : ome.Base S w) :
    Feeds5 n 38 #[.pointer (some ⟨qa, 0, none⟩)] (fun e => #[ev20 e]) S (fun pre y _ => pre ++ [y] <+: L) (fun xs => xs = L) (fun pre => pre <+: L) w := fun l J Jx W hW hlW hSW hJ hJx hY h0 => by
  obtain ⟨A, x, hs, hf⟩ := h.src
  have hWS : Turn S w W := hW.none
  have HRest := Lib.hid (h.rest.turn hWS h1)
  have HJ := Lib.hid hJ; have HJx := Lib.hid hJx; have HY := Lib.hid hY; have H0 := Lib.hid h0
  have HH := Lib.hid h; have HS := Lib.hid hs; have HF := Lib.hid hf; have HB := Lib.hid hB; have HW := Lib.hid hW; have HWS := Lib.hid hWS
  have HLW := Lib.hid hlW; have HSW := Lib.hid hSW
  have HN : Hid (¬ S qa ∧ ¬ S q1 ∧ ¬ S q2) := ⟨h1, h2, h3⟩
  have hcr := (HRest.out.alloc (.cells #[.func (.yield l) #[] #[]] 80)).cell 0
  clear hlW hSW hJ hJx hY h0 h hs hf hB hW hWS h1 h2 h3
  refine ome.calls_depth (m := 5) ?_
  refine callsIn_of_wp_marks Try.func38 rfl trivial ?_ rfl
  simp only [Try.ntmps38, List.size_toArray, List.length_cons, List.length_nil, Nat.reduceAdd, Nat.reduceSub, Array.replicate_succ, Array.replicate_zero, List.push_toArray, List.append_toArray, List.nil_append, List.cons_append]
  gi_wp2_with fail
  obtain ⟨W1, hW1⟩ : ∃ W1, W1 = W.alloc (.cells #[.func (.yield l) #[] #[]] 80) := ⟨_, rfl⟩
  have HT1 : Hid (Turn (fun _ => False) W W1) := by rw [hW1]; exact (Turn.refl _ W).alloc _
  have HYB : Hid (Box W1 W.heap.size 80 #[.func (.yield l) #[] #[]]) := by rw [hW1]; exact Box.new W _ _
  have HSZ : Hid (W1.heap.size = W.heap.size + 1) := by show W1.heap.size = _; rw [hW1]; simp
  rw [← hW1]
  clear hW1 hcr
  have HSi : Hid (∀ k, (S k ∨ W1.heap.size ≤ k) → S k ∨ w.heap.size ≤ k) := fun k h => h.imp id (fun e => by have := HW.out.size; have := HSZ.out; omega)
  have HBi : Hid (ome.Base (fun k => S k ∨ W1.heap.size ≤ k) w) := ⟨fun g cs hb e => by
    rcases HSi.out g e with h | h
    · exact HB.out.far g cs hb h
    · have := hb.lt; omega⟩
  have HNi : Hid (∀ q, q < w.heap.size → ¬ S q → ¬ (S q ∨ W1.heap.size ≤ q)) := fun q hq hn e => by
    rcases HSi.out q e with h | h
    · exact hn h
    · omega
  have HFD := Lib.hid (ome.rising_feeds3 4 HS.out (fun k => S k ∨ W1.heap.size ≤ k) (HNi.out q1 HS.out.root.lt HN.out.2.1) (HNi.out q2 HS.out.fun'.lt HN.out.2.2) HBi.out (fun key W _ => ome.none_any key W))
  rw [ome.kept_none, HF.out] at HFD
  unfold ome.RisV
  refine' over5 (n := 5) (by omega) (gf := 77) (lb := #[.pointer (some ⟨q1, 0, none⟩), .pointer (some ⟨q2, 0, none⟩)]) rfl (enters_of Try.func77 (by kernel_rfl) rfl)
    HFD.out (HW.out.trans HT1.out (fun _ _ f => f)) (Or.inr (Nat.le_succ _)) (fun _ => rfl) _
    (fun (pre : List (Int × N20)) V => J W1.heap.size (pre.map (·.2)) V ∧ Box V W.heap.size 80 #[.func (.yield l) #[] #[]])
    (fun c xs V => c = .ret ∧ Jx (xs.map (·.2)) V ∧ xs.map (·.2) <+: L)
    ?hI ?hIx ?h0
    (fun pre y q V => (J W1.heap.size (pre.map (·.2)) V ∧ Box V W.heap.size 80 #[.func (.yield l) #[] #[]]) ∧ Box V q 32 (ecells20 y.2) ∧ pre ++ [y] <+: kv20 L)
    ?hax ?assign ?body ?done ?stop
  case hI =>
    intro s V V' ⟨h1, h3⟩ ht
    exact ⟨(HJ.out _).le (by have := HSZ.out; omega) _ _ _ h1 ht, h3.odd ht⟩
  case hIx =>
    intro c s V V' ⟨h1, h2, h3⟩ ht
    exact ⟨h1, HJx.out.le (by have := HSZ.out; omega) _ _ _ h2 ht, h3⟩
  case hax =>
    intro pre y q V V' ⟨⟨h1, h3⟩, h5, h6⟩ ht
    exact ⟨⟨(HJ.out _).le (by have := HSZ.out; omega) _ _ _ h1 ht, h3.odd ht⟩, h5.odd ht, h6⟩
  case h0 => exact ⟨H0.out _ HT1.out, HYB.out⟩
  case assign =>
    intro l0 pre x0 Wa K hi hgv hK
    obtain ⟨h1, h3⟩ := hi
    have HK := Lib.hid hK
    have HT : Hid (Turn (fun _ => False) Wa (Wa.alloc (.cells (ecells20 x0.2) 32))) := (Turn.refl _ Wa).alloc _
    have HBX : Hid ((J W1.heap.size (pre.map (·.2)) (Wa.alloc (.cells (ecells20 x0.2) 32)) ∧ Box (Wa.alloc (.cells (ecells20 x0.2) 32)) W.heap.size 80 #[.func (.yield l) #[] #[]]) ∧ Box (Wa.alloc (.cells (ecells20 x0.2) 32)) Wa.heap.size 32 (ecells20 x0.2) ∧ pre ++ [x0] <+: kv20 L) :=
      ⟨⟨HJ.out _ _ _ _ h1 HT.out.none, h3.alloc _⟩, Box.new Wa _ _, hgv⟩
    clear hK h1 h3 hgv
    gi_wp2
    generalize Wa.alloc (.cells (ecells20 x0.2) 32) = V2 at *
    generalize Wa.heap.size = p at *
    exact HK.out p _ HBX.out HT.out
  case body =>
    rintro l0 pre y q V ⟨⟨h1, h3⟩, h5, hgv⟩
    have hy0 := h3.cell 0
    obtain ⟨v0, v1, v2, v3, v4, v5⟩ := box_n20 h5
    have HJ1 := Lib.hid h1; have H3 := Lib.hid h3
    have HP := Lib.hid (pre_snd20 hgv)
    have HMP : Hid ((pre ++ [y]).map (·.2) = pre.map (·.2) ++ [y.2]) := List.map_append
    clear h1 h3 h5 hgv
    obtain ⟨fn, tm, asg, bo, hy, hrr⟩ := ome.yield_depth (m' := 5 - 1 - 1 - 1) (HY.out _ (pre.map (·.2)) y.2 V (by have := HSZ.out; omega) HJ1.out HP.out)
    have HRO := Lib.hid (ome.round_in l0 hrr)
    clear hrr
    gi_wp2_with fail
    refine HRO.out.mono ?_
    rintro e V2 (⟨rfl, hj2, ht2, hs2⟩ | ⟨rfl, hx2, hs2⟩)
    · have HJ2 := Lib.hid hj2; have HT2 := Lib.hid ht2; have HS2 := Lib.hid hs2
      clear hj2 ht2 hs2
      gi_wp2
      refine ⟨HS2.out.le (by have := HLW.out; have := HSZ.out; omega), HT2.out, by rw [HMP.out]; exact HJ2.out, H3.out.turn HT2.out (fun h => ?_)⟩
      rcases h with h | h
      · exact Nat.lt_irrefl _ (HSW.out _ h)
      · have := HSZ.out; omega
    · have HX2 := Lib.hid hx2; have HS2 := Lib.hid hs2
      clear hx2 hs2
      gi_wp2
      exact ⟨HS2.out.le (by have := HLW.out; have := HSZ.out; omega), rfl, by rw [HMP.out]; exact HX2.out, by rw [HMP.out]; exact HP.out⟩
  case done =>
    rintro D xs V hD hA ⟨h1, h3⟩ hK
    have hA2 : xs = kv20 L := hA
    rw [hA2, kv_snd20] at h1
    have hj : J W1.heap.size L (V.putObj D (.deferred none)) := (HJ.out _).put _ h1 (by have := HSZ.out; omega) hK rfl
    clear hA hA2 h1
    gi_wp2
    refine ⟨by simp, .inl ⟨_, _, rfl, run_takeDeferred hK, ?_⟩⟩
    exact ⟨_, results_none rfl _ _ _, ⟨_, rfl⟩, .inl ⟨_, L, rfl, hj⟩⟩
  case stop =>
    rintro D c0 pre V hD hP ⟨rfl, h, hpl⟩ hK
    have hj : Jx (pre.map (·.2)) (V.putObj D (.deferred none)) := HJx.out.put _ h (by have := HSZ.out; omega) hK rfl
    clear h
    gi_wp2
    refine ⟨by simp, .inl ⟨_, _, rfl, run_takeDeferred hK, ?_⟩⟩
    exact ⟨_, results_none rfl _ _ _, ⟨_, rfl⟩, .inr ⟨_, hpl, hj⟩⟩

/-- Behind All. -/
def AllP20 (w : World) (l : List N20) (e : Ending) (w' : World) : Prop := ∃ qa q1 q2, e = .returned (.func (.func 38) #[] #[.pointer (some ⟨qa, 0, none⟩)]) ∧ AllAt20 w' qa q1 q2 l ∧ (w.heap.size ≤ qa ∧ w.heap.size ≤ q1 ∧ w.heap.size ≤ q2) ∧ Turn (fun _ => False) w w'
theorem all_at20 {w w1 : World} {q1 q2 : Nat} {l : List N20} (h : ome.Ris w w1 q1 q2 56 #[] (kv20 l)) :
    AllAt20 (w1.alloc (.cells #[ome.RisV q1 q2] 70)) w1.heap.size q1 q2 l ∧ (w.heap.size ≤ w1.heap.size ∧ w.heap.size ≤ q1 ∧ w.heap.size ≤ q2) ∧ Turn (fun _ => False) w (w1.alloc (.cells #[ome.RisV q1 q2] 70)) := by
  obtain ⟨A, x, hb1, hb2, hx, hf⟩ := h.out
  have ht : Turn (fun _ => False) w1 (w1.alloc (.cells #[ome.RisV q1 q2] 70)) := (Turn.refl _ w1).alloc _
  exact ⟨⟨Box.new w1 _ _, A, x, ⟨hb1.alloc _, hb2.alloc _, hx.later ht, by rw [hf]; exact h.up, enters_of Try.func56 (by kernel_rfl) rfl, fun _ _ _ h => h⟩, hf⟩, ⟨h.turn.size, h.new1, h.new2⟩, h.turn.trans ht (fun _ _ f => f)⟩
theorem all_any20 {w : World} {F : Nat → Prop} {g : Nat} {l : List N20} (h : CM20 w F g l) : Calls Try.prog 20 #[.pointer (some ⟨g, 0, none⟩)] w fun e w' => AllP20 w l e w' := by
  have HA := Lib.hid (ome.all_any h.mp)
  clear h
  go_enter Try.func20, Try.ntmps20
  go_wp2_with (first
    | (go_at_call 26; refine (there_any20 _ _).mono ?_; rintro e w' ⟨rfl, rfl⟩)
    | (go_at_call 37; refine HA.out.mono ?_; rintro e w1 ⟨q1, q2, rfl, hr⟩; have HX := Lib.hid (all_at20 hr); clear hr; unfold ome.RisV)
    | fail)
  go_ret
  exact ⟨_, q1, q2, rfl, HX.out⟩
theorem all_nil20 (w : World) : Calls Try.prog 20 #[.pointer none] w fun e w' => AllP20 w [] e w' := by
  have HA : Hid (Calls Try.prog 37 #[.pointer none] w fun e w' => ome.AllPost w (kv20 []) e w') := ome.all_nil w
  go_enter Try.func20, Try.ntmps20
  go_wp2_with (first
    | (go_at_call 26; refine (there_nil20 _).mono ?_; rintro e w' ⟨rfl, rfl⟩)
    | (go_at_call 37; refine HA.out.mono ?_; rintro e w1 ⟨q1, q2, rfl, hr⟩; have HX := Lib.hid (all_at20 hr); clear hr; unfold ome.RisV)
    | fail)
  go_ret
  exact ⟨_, q1, q2, rfl, HX.out⟩
theorem allp_is20 {w w' : World} {l : List N20} {e : Ending} (h : AllP20 w l e w') : All20 w l e w' := by
  obtain ⟨qa, q1, q2, rfl, hat, ⟨n0, n1, n2⟩, ht⟩ := h
  refine ⟨_, _, rfl, enters_of Try.func38 (by kernel_rfl) rfl, ht, fun n S hS => ?_⟩
  obtain ⟨A, x, hs, -⟩ := hat.src
  have key : ∀ k, w.heap.size ≤ k → k < w'.heap.size → ¬ S k := fun k h1 h2 h3 => by
    rcases hS k h3 with ⟨x, hb⟩ | h
    · have := hb.lt; omega
    · omega
  exact (all_feeds20 n hat S (key qa n0 hat.rest.lt) (key q1 n1 hs.root.lt) (key q2 n2 hs.fun'.lt) ⟨fun g cs hb e => by
    rcases hS g e with ⟨x, hi⟩ | h
    · exact box_ne10 hb (hi.turn ht (fun f => f)) (by decide) rfl
    · have := hb.lt; omega⟩).feeds

end Go.Proofs.Ytgbphkbbedkepaa

/-
  Worlds that have only grown, and drawn: what slices.SortFunc asks of a closure. No type is named.
-/
namespace Go.Proofs.Ytgbphkbbedkepaa
open Go.RowKit

/-- w' has come of w by blocks laid and draws alone. -/
def Gr (w w' : World) : Prop := ∃ q os, w' = Sort.grow (w.drewN q) os
theorem Gr.refl (w : World) : Gr w w := ⟨0, #[], by rw [Sort.grow_empty]; rfl⟩
theorem Gr.trans {a b c : World} (h : Gr a b) (g : Gr b c) : Gr a c := by
  obtain ⟨q, os, rfl⟩ := h
  obtain ⟨q2, os2, rfl⟩ := g
  refine ⟨q + q2, os ++ os2, ?_⟩
  show Sort.grow (Sort.grow ((a.drewN q).drewN q2) os) os2 = _
  rw [Sort.grow_grow]
  congr 1
  simp [World.drewN, Nat.add_assoc]
theorem Gr.drewN {a b : World} (h : Gr a b) (n : Nat) : Gr a (b.drewN n) := h.trans ⟨n, #[], by rw [Sort.grow_empty]⟩
theorem Gr.drew {a b : World} (h : Gr a b) : Gr a b.drew := h.drewN 1
theorem Gr.alloc {a b : World} (h : Gr a b) (o : Obj) : Gr a (b.alloc o) := h.trans ⟨0, #[o], Sort.alloc_eq_grow b o⟩
theorem Gr.turn {a b : World} (h : Gr a b) : Turn (fun _ => False) a b := by
  obtain ⟨q, os, rfl⟩ := h
  refine ⟨rfl, rfl, rfl, ?_, ?_⟩
  · show a.heap.size ≤ (a.heap ++ os).size
    rw [Array.size_append]
    omega
  · intro k hk _
    show (a.heap ++ os)[k]? = a.heap[k]?
    rw [Array.getElem?_append_left hk]

end Go.Proofs.Ytgbphkbbedkepaa

/-
  Rows of a call's own, of elements of any size, sorted: from and to the shelf's words. No type is named.
-/
namespace Go.Proofs.Ytgbphkbbedkepaa
open Go.RowKit

section
variable {T : Type} [Inhabited T] {E : El T} {e : TypeId} {w : World} {L : List T}

theorem flatK_eq (E : El T) (d : Array T) : Sort.flatK E.enc E.sz d = (E.flat d.toList).toArray := by
  apply Sort.ext_get!
  · rw [Sort.size_flatK]
    show _ = (E.flat d.toList).length
    rw [E.flat_len]
    rfl
  · intro t ht
    rw [Sort.size_flatK] at ht
    have h0 : 0 < E.sz := by
      rcases Nat.eq_zero_or_pos E.sz with h | h
      · rw [h, Nat.mul_zero] at ht; exact absurd ht (Nat.not_lt_zero t)
      · exact h
    have hd : t / E.sz < d.size := (Nat.div_lt_iff_lt_mul h0).2 ht
    have hm : t % E.sz < E.sz := Nat.mod_lt _ h0
    rw [Sort.get_flatK _ _ _ _ ht]
    have hx : d.toList[t / E.sz]? = some d[t / E.sz] := by rw [Array.getElem?_toList, Array.getElem?_eq_getElem hd]
    have h1 := E.flat_at hx hm
    rw [show t / E.sz * E.sz + t % E.sz = t by rw [Nat.mul_comm]; exact Nat.div_add_mod t E.sz] at h1
    rw [getElem!_pos d _ hd]
    simp only [getElem!_def, List.getElem?_toArray, h1]

/-- A row of one's own holds its elements in the shelf's words. -/
theorem OwE.holdsK {ad : Addr} {n c : Nat} (h : OwE E e w (.slice (some ad) n c) L) : Sort.HoldsK E.enc E.sz w ad.block 0 L.toArray := by
  obtain ⟨cur, _, _, hb, _, _, _, h4⟩ := h.home
  unfold Sort.HoldsK Sort.Holds
  rw [flatK_eq]
  intro j hj
  rw [List.size_toArray] at hj
  rw [Nat.zero_add]
  refine ⟨?_, hb.free j⟩
  rw [hb.cell]
  have e1 : (E.flat L)[j]? = cur[j]? := by
    rw [← h4, List.getElem?_take, if_pos (by rw [E.flat_len] at hj; exact hj), Array.getElem?_toList]
  rw [← e1, List.getElem?_eq_getElem hj]
  simp only [id]
  rw [getElem!_pos _ j (by rw [List.size_toArray]; exact hj)]
  rfl

theorem turn_sortK (E : El T) (d : Array T) (g m : Nat) (os : Array Obj) (w : World) : Turn (fun k => k = g) w (sortWorldK E.enc E.sz w g 0 m d os) := by
  refine ⟨rfl, rfl, rfl, ?_, ?_⟩
  · show w.heap.size ≤ (_ ++ os).size
    rw [Array.size_append, Sort.putRowK, Sort.size_putRow]
    exact Nat.le_add_right _ _
  · intro k hk hg
    show (_ ++ os)[k]? = _
    rw [Array.getElem?_append_left (by rw [Sort.putRowK, Sort.size_putRow]; exact hk)]
    show (w.heap.modify g _)[k]? = _
    rw [Array.getElem?_modify, if_neg (fun e => hg e.symm)]

/-- Behind a sort: the row is one's own still, and holds what the shelf says. -/
theorem OwE.sorted {ad : Addr} {n c : Nat} (h : OwE E e w (.slice (some ad) n c) L) (d : Array T) (hd : d.size = L.length) (m : Nat) (os : Array Obj) :
    OwE E e (sortWorldK E.enc E.sz w ad.block 0 m d os) (.slice (some ad) n c) d.toList ∧ Turn (fun k => k = ad.block) w (sortWorldK E.enc E.sz w ad.block 0 m d os) := by
  refine ⟨?_, turn_sortK E d _ m os w⟩
  have hH := h.holdsK
  obtain ⟨cur, had, hn, hb, h1, h2, h3, h4⟩ := h.home
  have hlt := hb.lt
  have hdl : d.toList.length = L.length := by rw [Array.length_toList, hd]
  have hH2 : Sort.HoldsK E.enc E.sz (sortWorldK E.enc E.sz w ad.block 0 m d os) ad.block 0 d := by
    unfold sortWorldK
    refine Sort.holdsK_grow _ _ _ _ _ _ _ (by rw [Sort.putRowK, Sort.size_putRow]; exact hlt) (Sort.holdsK_putRowK _ _ _ _ _ L.toArray _ (Sort.holdsK_ahead _ _ _ _ _ _ _ hH) (by rw [List.size_toArray]; exact hd))
  have hb2 : Box (sortWorldK E.enc E.sz w ad.block 0 m d os) ad.block e (Sort.putCells id 0 (Sort.flatK E.enc E.sz d) cur) := by
    show (_ ++ os)[ad.block]? = _
    rw [Array.getElem?_append_left (by rw [Sort.putRowK, Sort.size_putRow]; exact hlt)]
    show (w.heap.modify ad.block _)[ad.block]? = _
    rw [Array.getElem?_modify, if_pos rfl, hb]
    rfl
  rw [had, hn, ← hdl]
  refine OwE.of_box hb2 (by rw [hdl]; exact h1) h2 (by rw [Sort.putCells, Array.size_mapIdx]; exact h3) ?_
  unfold Sort.HoldsK Sort.Holds at hH2
  rw [flatK_eq] at hH2
  rw [flatK_eq] at hb2 ⊢
  apply List.ext_getElem?
  intro j
  rw [List.getElem?_take]
  split
  · rename_i hj
    have hj2 : j < (E.flat d.toList).length := by rw [E.flat_len]; exact hj
    have g1 := (hH2 j (by rw [List.size_toArray]; exact hj2)).1
    rw [Nat.zero_add, hb2.cell] at g1
    rw [Array.getElem?_toList, g1, List.getElem?_eq_getElem hj2, id, getElem!_pos _ j (by rw [List.size_toArray]; exact hj2)]
    rfl
  · rename_i hj
    rw [List.getElem?_eq_none (by rw [E.flat_len]; omega)]
end


end Go.Proofs.Ytgbphkbbedkepaa

/-
  Rows of numbers of one cell, sorted and made one of each: from and to the shelf's words; lists that rise. No type is named.
-/
namespace Go.Proofs.Ytgbphkbbedkepaa
open Go.RowKit

/-- Two lists that rise, with the same things, are one. -/
theorem rising_one {A : Type} {lt : A → A → Bool} (h : Rises lt) : ∀ {l m : List A}, (l.Pairwise fun x y => lt x y = true) → (m.Pairwise fun x y => lt x y = true) → (∀ x, x ∈ l ↔ x ∈ m) → l = m
  | [], [], _, _, _ => rfl
  | [], y :: m, _, _, he => by have := (he y).2 (List.mem_cons_self ..); cases this
  | x :: l, [], _, _, he => by have := (he x).1 (List.mem_cons_self ..); cases this
  | x :: l, y :: m, hl, hm, he => by
    rw [List.pairwise_cons] at hl hm
    have hxy : x = y := by
      rcases List.mem_cons.1 ((he x).1 (List.mem_cons_self ..)) with e | e
      · exact e
      · rcases List.mem_cons.1 ((he y).2 (List.mem_cons_self ..)) with e2 | e2
        · exact e2.symm
        · have h1 := h.tr x y x (hl.1 y e2) (hm.1 x e)
          rw [h.irr x] at h1
          cases h1
    subst hxy
    have hlm : l = m := by
      refine rising_one h hl.2 hm.2 fun z => ⟨fun hz => ?_, fun hz => ?_⟩
      · rcases List.mem_cons.1 ((he z).1 (List.mem_cons_of_mem _ hz)) with e | e
        · subst e
          have h1 := hl.1 z hz
          rw [h.irr z] at h1
          cases h1
        · exact e
      · rcases List.mem_cons.1 ((he z).2 (List.mem_cons_of_mem _ hz)) with e | e
        · subst e
          have h1 := hm.1 z hz
          rw [h.irr z] at h1
          cases h1
        · exact e
    rw [hlm]

/-- What slices.Compact leaves of numbers in order: each once, in order. -/
theorem compact_mem (zs : List Int) (x : Int) : x ∈ Lib.compact zs ↔ x ∈ zs := by
  unfold Lib.compact Lib.compactUpTo
  simp only [List.mem_map, List.mem_filter, List.mem_range]
  constructor
  · rintro ⟨i, ⟨hi, _⟩, rfl⟩
    rw [getElem!_pos zs.toArray i (by rw [List.size_toArray]; exact hi)]
    simp
  · intro hx
    obtain ⟨i, hi, e⟩ := List.getElem_of_mem hx
    have key : ∀ i, i < zs.length → zs.toArray[i]! = x → ∃ a, (a < zs.length ∧ Lib.keeps zs.toArray a = true) ∧ zs.toArray[a]! = x := by
      intro i
      induction i with
      | zero => intro hi e; exact ⟨0, ⟨hi, by simp [Lib.keeps]⟩, e⟩
      | succ i ih =>
        intro hi e
        by_cases hk : Lib.keeps zs.toArray (i + 1) = true
        · exact ⟨i + 1, ⟨hi, hk⟩, e⟩
        · have h2 : zs.toArray[i + 1]! = zs.toArray[i]! := by
            simp only [Lib.keeps, decide_eq_true_iff, not_or, Classical.not_not] at hk
            exact hk.2
          exact ih (by omega) (by rw [← h2]; exact e)
    exact key i hi (by rw [getElem!_pos zs.toArray i (by rw [List.size_toArray]; exact hi)]; simpa using e)
theorem compact_rises (zs : List Int) (h : zs.Pairwise fun x y => x ≤ y) : (Lib.compact zs).Pairwise fun x y => decide (x < y) = true := by
  unfold Lib.compact Lib.compactUpTo
  rw [List.pairwise_map]
  have hr : ((List.range zs.length).filter (Lib.keeps zs.toArray)).Pairwise fun a b => a < b := List.pairwise_lt_range.filter _
  refine hr.imp_of_mem fun {a b} ha hb hab => ?_
  rw [List.mem_filter, List.mem_range] at ha hb
  have hs : ∀ i, i < zs.length → ∃ (hi : i < zs.length), zs.toArray[i]! = zs[i] := fun i hi => ⟨hi, by rw [getElem!_pos zs.toArray i (by rw [List.size_toArray]; exact hi)]; simp⟩
  obtain ⟨ha1, ea⟩ := hs a ha.1
  obtain ⟨hb1, eb⟩ := hs b hb.1
  obtain ⟨hc1, ec⟩ := hs (b - 1) (by omega)
  have hk := hb.2
  simp only [Lib.keeps, decide_eq_true_iff] at hk
  have hne : zs.toArray[b]! ≠ zs.toArray[b - 1]! := hk.resolve_left (by omega)
  rw [eb, ec] at hne
  have h1 : zs[b - 1] ≤ zs[b] := List.pairwise_iff_getElem.1 h (b - 1) b hc1 hb1 (by omega)
  have h2 : zs[a] ≤ zs[b - 1] := by
    by_cases e : a = b - 1
    · subst e; exact Int.le_refl _
    · exact List.pairwise_iff_getElem.1 h a (b - 1) ha1 hc1 (by omega)
  rw [ea, eb, decide_eq_true_iff]
  omega
theorem nums_sorted (zs : List Int) : (zs.mergeSort fun x y => decide (x ≤ y)).Pairwise fun x y => x ≤ y := by
  have h := List.pairwise_mergeSort (le := fun x y : Int => decide (x ≤ y)) (by intro a b c h1 h2; simp only [decide_eq_true_iff] at *; omega) (by intro a b; simp only [Bool.or_eq_true, decide_eq_true_iff]; omega) zs
  exact h.imp fun h => by simpa using h

section
variable {E : El Int} {e : TypeId} {w : World} {L : List Int}
theorem flat_map1 {T : Type} {E : El T} {f : T → Value} (he : ∀ x, E.enc x = [f x]) (l : List T) : E.flat l = l.map f := by
  induction l with
  | nil => rfl
  | cons x l ih => rw [El.flat_cons, he, ih]; rfl
/-- The row with other numbers, as many. -/
theorem OwE.row {T : Type} [Inhabited T] {E : El T} {L : List T} {ad : Addr} {n c : Nat} (h : OwE E e w (.slice (some ad) n c) L) {f : T → Value} (he : ∀ x, E.enc x = [f x]) (d : List T) (hd : d.length = L.length) (m : Nat) (os : Array Obj) :
    OwE E e (Sort.grow (Sort.putRow f (Sort.ahead w m) ad.block 0 d.toArray) os) (.slice (some ad) n c) d ∧ Turn (fun k => k = ad.block) w (Sort.grow (Sort.putRow f (Sort.ahead w m) ad.block 0 d.toArray) os) := by
  have h1 := h.sorted d.toArray (by rw [List.size_toArray]; exact hd) m os
  have e1 : sortWorldK E.enc E.sz w ad.block 0 m d.toArray os = Sort.grow (Sort.putRow f (Sort.ahead w m) ad.block 0 d.toArray) os := by
    unfold sortWorldK Sort.putRowK
    congr 1
    unfold Sort.putRow
    refine Sort.mapBlock_congr _ _ _ _ fun cs _ _ _ => ?_
    unfold Sort.putCells
    rw [flatK_eq, flat_map1 he]
    simp only [List.size_toArray, List.length_map]
    congr 1
    funext k x
    split
    · rename_i hk
      have hk2 : k - 0 < d.length := by omega
      rw [getElem!_pos _ (k - 0) (by rw [List.size_toArray, List.length_map]; exact hk2), getElem!_pos _ (k - 0) (by rw [List.size_toArray]; exact hk2)]
      simp
    · rfl
  rw [e1] at h1
  exact h1
theorem OwE.holds1 {T : Type} [Inhabited T] {E : El T} {L : List T} {ad : Addr} {n c : Nat} (h : OwE E e w (.slice (some ad) n c) L) {f : T → Value} (he : ∀ x, E.enc x = [f x]) : Sort.Holds f w ad.block 0 L.toArray := by
  have h1 := h.holdsK
  unfold Sort.HoldsK at h1
  rw [flatK_eq, flat_map1 he] at h1
  intro j hj
  have h2 := h1 j (by rw [List.size_toArray, List.length_map]; rw [List.size_toArray] at hj; exact hj)
  refine ⟨?_, h2.2⟩
  rw [h2.1]
  rw [List.size_toArray] at hj
  rw [getElem!_pos _ j (by rw [List.size_toArray, List.length_map]; exact hj), getElem!_pos _ j (by rw [List.size_toArray]; exact hj)]
  simp
end

end Go.Proofs.Ytgbphkbbedkepaa

/-
  The library's functions that the program calls, at this program's numbers: each laying is a table of numbers, and a theorem: a fact a row.
-/
namespace Go.Proofs.Ytgbphkbbedkepaa
open Go.Shelf
def Try.sortN20_ren : Go.Shelf.Ren := ⟨fun | 5 => 40 | 8 => 59 | 7 => 58 | 19 => 87 | 20 => 88 | 10 => 79 | 11 => 80 | 12 => 81 | 13 => 82 | 14 => 83 | 15 => 84 | 16 => 45 | 17 => 85 | 18 => 86 | 30 => 102 | 31 => 103 | 32 => 104 | 33 => 105 | 34 => 106 | 35 => 63 | 40 => 112 | n => n, fun | 23 => 54 | 25 => 2 | 3 => 3 | 32 => 97 | 22 => 54 | 0 => 0 | 44 => 118 | 46 => 120 | 4 => 4 | 36 => 111 | 35 => 110 | 41 => 115 | 5 => 5 | 9 => 9 | 53 => 126 | 57 => 130 | 63 => 136 | 64 => 137 | n => n, fun | n => n⟩
theorem Try.sortN20 : Go.Proofs.SlLaysM.n5 Try.prog Try.sortN20_ren := {
  mixed := by kernel_rfl
  f5 := ⟨Try.f40.name, by decide, Try.func40.trans (congrArg some (by kernel_rfl))⟩
  f7 := ⟨Try.f58.name, by decide, Try.func58.trans (congrArg some (by kernel_rfl))⟩
  f8 := Try.func59.trans (congrArg some (by kernel_rfl))
  f10 := ⟨Try.f79.name, by decide, Try.func79.trans (congrArg some (by kernel_rfl))⟩
  f11 := ⟨Try.f80.name, by decide, Try.func80.trans (congrArg some (by kernel_rfl))⟩
  f12 := ⟨Try.f81.name, by decide, Try.func81.trans (congrArg some (by kernel_rfl))⟩
  f13 := ⟨Try.f82.name, by decide, Try.func82.trans (congrArg some (by kernel_rfl))⟩
  f14 := ⟨Try.f83.name, by decide, Try.func83.trans (congrArg some (by kernel_rfl))⟩
  f15 := ⟨Try.f84.name, by decide, Try.func84.trans (congrArg some (by kernel_rfl))⟩
  f16 := ⟨Try.f45.name, by decide, Try.func45.trans (congrArg some (by kernel_rfl))⟩
  f17 := ⟨Try.f85.name, by decide, Try.func85.trans (congrArg some (by kernel_rfl))⟩
  f18 := ⟨Try.f86.name, by decide, Try.func86.trans (congrArg some (by kernel_rfl))⟩
  f19 := Try.func87.trans (congrArg some (by kernel_rfl))
  f20 := Try.func88.trans (congrArg some (by kernel_rfl))
  f30 := ⟨Try.f102.name, by decide, Try.func102.trans (congrArg some (by kernel_rfl))⟩
  f31 := Try.func103.trans (congrArg some (by kernel_rfl))
  f32 := Try.func104.trans (congrArg some (by kernel_rfl))
  f33 := ⟨Try.f105.name, by decide, Try.func105.trans (congrArg some (by kernel_rfl))⟩
  f34 := ⟨Try.f106.name, by decide, Try.func106.trans (congrArg some (by kernel_rfl))⟩
  f35 := ⟨Try.f63.name, by decide, Try.func63.trans (congrArg some (by kernel_rfl))⟩
  f40 := ⟨Try.f112.name, by decide, Try.func112.trans (congrArg some (by kernel_rfl))⟩
  t0 := Try.underlying0
  a0 := Try.isAgg0
  z0 := Try.sizeOf0
  v0 := Try.zeroValue0
  t3 := Try.underlying3
  a3 := Try.isAgg3
  z3 := Try.sizeOf3
  v3 := Try.zeroValue3
  t4 := Try.underlying4
  a4 := Try.isAgg4
  z4 := Try.sizeOf4
  v4 := Try.zeroValue4
  t5 := Try.underlying5
  a5 := Try.isAgg5
  z5 := Try.sizeOf5
  v5 := Try.zeroValue5
  t9 := Try.underlying9
  a9 := Try.isAgg9
  z9 := Try.sizeOf9
  v9 := Try.zeroValue9
  t22 := Try.underlying54
  a22 := Try.isAgg54
  z22 := Try.sizeOf54
  v22 := Try.zeroValue54
  t23 := Try.underlying54
  a23 := Try.isAgg54
  z23 := Try.sizeOf54
  v23 := Try.zeroValue54
  t25 := Try.underlying2
  a25 := Try.isAgg2
  z25 := Try.sizeOf2
  v25 := Try.zeroValue2
  t32 := Try.underlying97
  a32 := Try.isAgg97
  z32 := Try.sizeOf97
  v32 := Try.zeroValue97
  t35 := Try.underlying110
  a35 := Try.isAgg110
  z35 := Try.sizeOf110
  v35 := Try.zeroValue110
  t36 := Try.underlying111
  a36 := Try.isAgg111
  z36 := Try.sizeOf111
  v36 := Try.zeroValue111
  t41 := Try.underlying115
  a41 := Try.isAgg115
  z41 := Try.sizeOf115
  v41 := Try.zeroValue115
  t44 := Try.underlying118
  a44 := Try.isAgg118
  z44 := Try.sizeOf118
  v44 := Try.zeroValue118
  t46 := Try.underlying120
  a46 := Try.isAgg120
  z46 := Try.sizeOf120
  v46 := Try.zeroValue120
  t53 := Try.underlying126
  a53 := Try.isAgg126
  z53 := Try.sizeOf126
  v53 := Try.zeroValue126
  t57 := Try.underlying130
  a57 := Try.isAgg130
  z57 := Try.sizeOf130
  v57 := Try.zeroValue130
  t63 := Try.underlying136
  a63 := Try.isAgg136
  z63 := Try.sizeOf136
  v63 := Try.zeroValue136
  t64 := Try.underlying137
  a64 := Try.isAgg137
  z64 := Try.sizeOf137
  v64 := Try.zeroValue137 }
end Go.Proofs.Ytgbphkbbedkepaa
