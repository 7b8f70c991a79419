/-
  Texts laid one behind the other: Ib Iq Te Ta Ih Id Dpr Tf.
-/
import Derived.Test.YtnnlgeldjjknmaaJocad
import Derived.Sort.BigQuietIn
import Derived.Test.YtnnlgeldjjknmaaJocae
import Derived.Laws.EntriesVeiled
import Derived.Test.YtnnlgeldjjknmaaJocac
import Derived.Test.YtnnlgeldjjknmaaJocab
import Derived.Stop.RegionWithIn
import Derived.OwnWalkIn
import Derived.Laws.ResultCell

/-
  Rows of elements of one cell that a call owns: what they hold, what leaves them as they are, one element put behind them. Rows of numbers.
-/
namespace Go.Proofs.Ytnnlgeldjjknmaa
open Go.RowKit

/-- Slice value v, at the head of a row of its own, or nil: its elements, of one cell each, of type e, are xs. -/
def Row (e : TypeId) (w : World) (v : Value) (xs : List Value) : Prop := w.ownsRow 0 e 1 v xs.length xs

section
variable {e : TypeId} {w w' : World} {v : Value} {xs : List Value}
theorem Row.nil (e : TypeId) (w : World) : Row e w (.slice none 0 0) [] := World.ownsRow_nil w 0 _ 1
theorem Row.lt (h : Row e w v xs) {k : Nat} (hk : v.ownBlock = some k) : k < w.heap.size := (World.ownsRow.lt h k hk).2
theorem Row.turn {S : Nat → Prop} (h : Row e w v xs) (ht : Turn S w w') (hn : ∀ k, v.ownBlock = some k → ¬ S k) : Row e w' v xs := by
  refine ⟨h.1, ?_⟩
  rcases h.2 with h0 | ⟨g, cap, cur, rfl, hb, hg, rest⟩
  · exact .inl h0
  · exact .inr ⟨g, cap, cur, rfl, hb, (ht.block g (Array.getElem?_eq_some_iff.1 hg).1 (hn g rfl)).trans hg, rest⟩
theorem Row.later (h : Row e w v xs) (ht : Turn (fun _ => False) w w') : Row e w' v xs := h.turn ht (fun _ _ f => f)
theorem Row.grown {row : Option Nat} (h : Row e w v xs) (hg : w.grownBy w' row) (hn : v.ownBlock = none ∨ v.ownBlock ≠ row) : Row e w' v xs := World.ownsRow.kept h hg hn
theorem Row.form (h : Row e w v xs) : (v = .slice none 0 0 ∧ xs = []) ∨ ∃ g cap cur, v = .slice (some ⟨g, 0, none⟩) xs.length cap ∧ Box w g e cur ∧ xs.length ≤ cap ∧ cap ≤ maxLen ∧ cur.size = cap ∧ cur.toList.take xs.length = xs := by
  rcases h.2 with ⟨h0, h1⟩ | ⟨g, cap, cur, hv, _, hg, hn, hm, hs, ht⟩
  · exact .inl ⟨h0, List.eq_nil_of_length_eq_zero h1⟩
  · exact .inr ⟨g, cap, cur, hv, hg, hn, hm, by simpa using hs, by simpa using ht⟩
theorem Row.shape (h : Row e w v xs) : ∃ A c, v = .slice A xs.length c := by
  rcases h.form with ⟨rfl, rfl⟩ | ⟨g, cap, cur, rfl, _⟩
  · exact ⟨_, _, rfl⟩
  · exact ⟨_, _, rfl⟩
theorem Row.bounds {A : Option Addr} {n c : Nat} (h : Row e w (.slice A n c) xs) : n = xs.length ∧ xs.length ≤ c ∧ c ≤ maxLen := by
  rcases h.form with ⟨h1, rfl⟩ | ⟨g, cap, cur, h1, _, h2, h3, _⟩
  · injection h1 with h4 h5 h6
    subst h4 h5 h6
    exact ⟨rfl, by simp, by simp⟩
  · injection h1 with h4 h5 h6
    subst h4 h5 h6
    exact ⟨rfl, h2, h3⟩
/-- Rows of elements of two types are two rows. -/
theorem Row.apart {e' : TypeId} {v' : Value} {xs' : List Value} (h : Row e w v xs) (h' : Row e' w v' xs') (hne : e ≠ e') : v.ownBlock = none ∨ v.ownBlock ≠ v'.ownBlock := by
  rcases h.form with ⟨rfl, _⟩ | ⟨g, cap, cur, rfl, hb, _⟩
  · exact .inl rfl
  · rcases h'.form with ⟨rfl, _⟩ | ⟨g', cap', cur', rfl, hb', _⟩
    · exact .inr (by simp [Value.ownBlock])
    · refine .inr fun e1 => ?_
      obtain rfl : g = g' := by simpa [Value.ownBlock] using e1
      have e2 := hb.symm.trans hb'
      injection e2 with e2
      injection e2 with _ e3
      exact hne e3
theorem Row.not_box {g : Nat} {t : TypeId} {cs : Array Value} (h : Row e w v xs) (hb : Box w g t cs) (hne : e ≠ t) : v.ownBlock ≠ some g := by
  rcases h.form with ⟨rfl, _⟩ | ⟨g', cap, cur, rfl, hb', _⟩
  · simp [Value.ownBlock]
  · intro e1
    obtain rfl : g' = g := by simpa [Value.ownBlock] using e1
    have e2 := hb'.symm.trans hb
    injection e2 with e2
    injection e2 with _ e3
    exact hne e3
theorem Row.at {A : Option Addr} {n c : Nat} (h : Row e w (.slice A n c) xs) {j : Nat} {x : Value} (hj : xs[j]? = some x) : ∃ ad, A = some ad ∧ w.cell? (ad.add j) = some x := by
  rcases h.form with ⟨_, rfl⟩ | ⟨g, cap, cur, h1, hb, _⟩
  · cases hj
  · injection h1 with h4 h5 h6
    subst h4
    have := World.ownsRow.cells h (g := g) rfl j x (by simpa using hj)
    exact ⟨_, rfl, this⟩
end

/-- A row that a call has made since w. -/
def MadeRow (e : TypeId) (w w' : World) (v : Value) (xs : List Value) : Prop := Row e w' v xs ∧ ∀ k, v.ownBlock = some k → w.heap.size ≤ k

/-- append of one element onto a row of one's own, or nil. -/
theorem wpList_push {w : World} {ops : Array Oper} {rest : List Oper} {o : Oper} {a : Act} {Q : Exit → Act → World → Prop} (hgd : o.guard = none) (s x : Operand) (t e : TypeId) {b : Nat}
    (ht : Try.prog.underlying t = some (.slice e)) {z : Value} (hz : (Try.prog.info? e).map (fun i => (i.zero, i.size, i.bytes)) = some (some z, 1, b)) (hzs : z.cells.size = 1) (hb : b ≤ 1000)
    (ho : o.op = .call { callee := .builtin .append, args := #[s, x], argTypes := #[t, t] }) (v : Value) (xs : List Value) (hs : a.eval s = v) (hown : Row e w v xs)
    (g : Nat) (y : Value) (hx : a.eval x = .slice (some ⟨g, 0, none⟩) 1 1) (hy : w.cell? ⟨g, 0, none⟩ = some y) (hy1 : y.oneCell' = true) (hl : xs.length ≤ 1000000000)
    (h : ∀ A n c w', Row e w' (.slice A n c) (xs ++ [y]) → w.grownBy w' v.ownBlock → ((Value.slice A n c).ownBlock = v.ownBlock ∨ (Value.slice A n c).ownBlock = some w.heap.size) → wpList Try.prog ops Q rest (a.put o.dst (.slice A n c)) w') :
    wpList Try.prog ops Q (o :: rest) a w := by
  refine wpList_plain hgd fun K hK => ?_
  obtain ⟨i, hi, hz0, h1, h2⟩ := info_parts hz
  have hsrc : Src Try.prog i.size t (.slice (some ⟨g, 0, none⟩) 1 1) 1 [y] w := by
    rw [h1]
    refine Src.ofSlice (P := Try.prog) w (size := 1) ht ⟨g, 0, none⟩ 1 1 [y] rfl ?_ ?_
    · intro j u hj
      cases j with
      | zero =>
        obtain rfl : y = u := by simpa using hj
        simpa [Addr.add] using hy
      | succ j => simp at hj
    · intro u hu
      obtain rfl : u = y := by simpa using hu
      exact hy1
  unfold Row at hown
  rw [← h1] at hown
  obtain ⟨A, n, c, w', hr, g1, g2, g3⟩ := run_app (P := Try.prog) w t t o.type e i z ht hi hz0 (by rw [h1]; exact hzs) v xs.length xs hown _ 1 [y] hsrc
    (by simp only [maxLen]; omega) (by rw [h2]; have : (xs.length + 1) * b ≤ 1000000001 * 1000 := Nat.mul_le_mul (by omega) hb; omega)
  unfold Oper.wp execOp
  simp only [ho, resolve, invoke, builtin, Sem.run_bind, Sem.run_pure, Result.andThen_ok, List.map_toArray, List.map_cons, List.map_nil, hs, hx, hr]
  refine hK _ _ (h A n c w' ?_ g2 g3)
  unfold Row
  rw [List.length_append, ← h1]
  exact g1

theorem int_info : (Try.prog.info? 3).map (fun i => (i.zero, i.size, i.bytes)) = some (some (.int .i64 0), 1, 8) := by kernel_rfl
/-- A slice value that reads as the numbers L. -/
def Nums (w : World) (v : Value) (L : List Nat) : Prop :=
  ∃ A c, v = .slice A L.length c ∧ ∀ (j n : Nat), L[j]? = some n → ∃ ad, A = some ad ∧ w.cell? (ad.add j) = some (.int .i64 (n : Int))
def nv (n : Nat) : Value := .int .i64 (n : Int)
theorem Row.nums {w : World} {v : Value} {L : List Nat} (h : Row 3 w v (L.map nv)) : Nums w v L := by
  obtain ⟨A, c, rfl⟩ := h.shape
  refine ⟨A, c, by rw [List.length_map], fun j n hj => ?_⟩
  exact h.at (x := nv n) (by rw [List.getElem?_map, hj]; rfl)
theorem Nums.at {w : World} {A : Option Addr} {n c : Nat} {L : List Nat} (h : Nums w (.slice A n c) L) {k x : Nat} (hk : L[k]? = some x) : ∃ ad, A = some ad ∧ w.cell? (ad.add k) = some (.int .i64 (x : Int)) := by
  obtain ⟨A', c', hv, hx⟩ := h
  injection hv with h1 h2 h3
  subst h1
  exact hx k x hk
theorem Nums.shape {w : World} {v : Value} {L : List Nat} (h : Nums w v L) : ∃ A c, v = .slice A L.length c := by
  obtain ⟨A, c, e, _⟩ := h
  exact ⟨A, c, e⟩
theorem cell_odd {w w' : World} {D : Nat} {a : Addr} {x : Value} (hc : w.cell? a = some x) (ht : Turn (odd D w) w w') : w'.cell? a = some x := by
  rw [ht.cell (World.block_lt_of_cell? w _ hc) ?_]
  · exact hc
  · rintro ⟨_, o, ho, hf⟩
    obtain ⟨o', ho', hf'⟩ := cells_of_cell hc
    rw [ho] at ho'
    cases ho'
    rw [hf] at hf'
    cases hf'
theorem Nums.odd {w w' : World} {D : Nat} {v : Value} {L : List Nat} (h : Nums w v L) (ht : Turn (odd D w) w w') : Nums w' v L := by
  obtain ⟨A, c, e, hx⟩ := h
  refine ⟨A, c, e, fun j n hj => ?_⟩
  obtain ⟨ad, e1, hc⟩ := hx j n hj
  exact ⟨ad, e1, cell_odd hc ht⟩
theorem Nums.later {w w' : World} {v : Value} {L : List Nat} (h : Nums w v L) (ht : Turn (fun _ => False) w w') : Nums w' v L := h.odd (D := 0) ht.none

/-- What lies below what may turn. -/
theorem Nums.below {w w' : World} {D : Nat} {v : Value} {L : List Nat} (h : Nums w v L) (ht : Turn (fun k => D ≤ k) w w') (hD : w.heap.size ≤ D) : Nums w' v L := by
  obtain ⟨A, c, e, hx⟩ := h
  refine ⟨A, c, e, fun j n hj => ?_⟩
  obtain ⟨ad, e1, hc⟩ := hx j n hj
  have hlt := World.block_lt_of_cell? w _ hc
  exact ⟨ad, e1, by rw [ht.cell hlt (by omega)]; exact hc⟩
theorem Rd.below {w w' : World} {D : Nat} {v : Value} {l : List UInt8} (h : Rd w v l) (ht : Turn (fun k => D ≤ k) w w') (hD : w.heap.size ≤ D) : Rd w' v l := by
  obtain ⟨A, c, rfl, hk, hn, hc⟩ := h
  refine ⟨A, c, rfl, hk, hn, fun ad e j b hj => ?_⟩
  have h1 := hc ad e j b hj
  have hlt := World.block_lt_of_cell? w _ h1
  rw [ht.cell hlt (by omega)]
  exact h1

end Go.Proofs.Ytnnlgeldjjknmaa

/-
  A region that draws its order and only reads, in a round of a range over a function: one walk of the text's order serves every order.
-/
namespace Go.Proofs.Ytnnlgeldjjknmaa
open Go.RowKit

def noDefer : Op → Bool
  | .defer _ => false
  | _ => true
theorem noDefer_ne {o : Op} (h : noDefer o = true) : ∀ c, o ≠ .defer c := by
  rintro c rfl
  cases h

section
variable {F : Fence} {n : Nat} {P : Program} {C : World → Prop} {ops : Array Oper} {md : Region.Mode}

theorem quiet_op {o : Oper} {a : Act} {K : Act → Prop} {K' : Act → World → Prop} {Q' : Exit → Act → World → Prop} {w : World} (hd : noDefer o.op = true) (hw : C w) (h : ∀ a w', C w' → K a → K' a w')
    (ha : o.askedIn F P a C) (hh : o.quietIn F n P a C K) : o.wpIn F n P a w K' Q' := by
  obtain ⟨v, h1, h2⟩ := hh
  have h3 := h1 w hw
  unfold Oper.quietAtIn at h3
  unfold Oper.wpIn
  rw [Oper.semAt_eq _ _ _ (noDefer_ne hd)]
  refine ⟨ha w hw, ?_⟩
  generalize (execOp a.eval o).run P w = r at *
  rcases r with ⟨x, w'⟩ | ⟨x, w'⟩
  · cases x <;> simp only [Oper.quietUponIn] at h3 <;> simp only [Oper.uponIn]
    case value u =>
      rw [h3.1, h3.2]
      exact h _ _ hw h2
    case skip =>
      rw [h3.1, ← h3.2]
      exact h _ _ hw h2
    case enter f args =>
      rw [h3.1]
      exact ⟨h3.2.1, h3.2.2.mono fun e w'' ⟨he, hw''⟩ => by subst he; exact h _ _ hw'' h2⟩
  · simp only [Oper.quietUponIn] at h3

theorem quiet_at (hnd : ∀ o ∈ ops.toList, noDefer o.op = true) {i : Nat} {a : Act} {K : Act → Prop} {K' : Act → World → Prop} {Q' : Exit → Act → World → Prop} {w : World} (hC : C w) (h : ∀ a w', C w' → K a → K' a w')
    (hh : qOpIn F n P ops C i K a) : wpOpIn F n P ops Q' i K' a w := by
  unfold qOpIn at hh
  unfold wpOpIn
  cases ho : ops[i]? with
  | none =>
    simp only [ho] at hh
    exact h _ _ hC hh
  | some o =>
    simp only [ho] at hh
    have hm : noDefer o.op = true := hnd o (Array.mem_toList_iff.2 (Array.mem_of_getElem? ho))
    by_cases hw : Region.wanted o (yielded ops a.tmps)
    · simp only [hw, if_true] at hh ⊢
      exact quiet_op hm hC h hh.1 hh.2
    · simp only [hw] at hh ⊢
      exact ⟨hh.1 w hC, h _ _ hC hh.2⟩

theorem quiet_any (hnd : ∀ o ∈ ops.toList, noDefer o.op = true) {Q : Act → Prop} {Q' : Exit → Act → World → Prop} (hQ : ∀ a w, C w → Q a → Q' .normal a w) : ∀ (fuel : Nat) (listed : Array Bool) (a : Act) (w : World), C w →
    wpAnyQIn F n P md ops C Q fuel listed a → wpAnyIn F n P md ops Q' fuel listed a w
  | 0, _, _, _, hw, h => ⟨h.1, hQ _ _ hw h.2⟩
  | fuel + 1, _, _, _, hw, h => ⟨fun h0 => hQ _ _ hw (h.1 h0), fun i hi => quiet_at hnd hw (fun a' w' hw' => quiet_any hnd hQ fuel _ a' w' hw') (h.2 i hi)⟩

theorem quiet_region {id : Nat} {Q : Exit → Act → World → Prop} {a : Act} {w : World} {l : List Oper} (hnd : (l.all fun o => noDefer o.op) = true) (hm : P.follows .mixedOrders = true) (hB : Region.lexB .any l.toArray = true)
    (h : wpQuietIn F n P l.toArray (fun w' => ∃ n, w' = w.drewN n) (fun a' => ∀ w', (∃ n, w' = w.drewN n) → Q .normal a' w') l a) : (Code.region id l.toArray true).wpIn F n P Q a w := by
  simp only [Region.lexB, Bool.and_eq_true] at hB
  have hnd' : ∀ o ∈ l.toArray.toList, noDefer o.op = true := fun o ho => by
    rw [List.all_eq_true] at hnd
    exact hnd o (by simpa using ho)
  refine wpIn_region_any hm (quiet_any hnd' (C := fun w' => ∃ n, w' = w.drewN n) (Q := fun a' => ∀ w', (∃ n, w' = w.drewN n) → Q .normal a' w') (fun _ w' hw' h => h w' hw') _ _ _ _ ⟨1, rfl⟩ ?_)
  have := wpAnyQIn_lex (F := F) (n := n) (P := P) (ops := l.toArray) (C := fun w' => ∃ n, w' = w.drewN n) (md := .any) hB.1 l 0 (Array.replicate l.toArray.size false) a (by simp) (by simpa using hB.2) h
  simpa using this
end

theorem wide_fn (f : FuncId) : Fence.wide.fn f = True := rfl

theorem quiet_same {P : Program} {l0 : Nat} {n : Nat} {f : FuncId} {args : Array Value} {w : World} {k : Nat} {v : Value}
    (h : Calls P f args (w.drewN k) fun e w' => e = .returned v ∧ w.drewN k = w') : CallsIn (Fence.wide.inRound l0) n P f args (w.drewN k) fun e w'' => e = .returned v ∧ ∃ m, w'' = w.drewN m :=
  CallsIn.inRound l0 (callsIn_wide.2 (h.mono fun _ _ ⟨he, hm⟩ => ⟨he, k, hm.symm⟩))

end Go.Proofs.Ytnnlgeldjjknmaa

/-
  Stage 11: Range: the iterator, and what it feeds.
-/
namespace Go.Proofs.Ytnnlgeldjjknmaa
open Go.RowKit Go.Shelf
attribute [local go_sem] Oper.semAt_some wide_fn

theorem yield_depth11 {m m' : Nat} {P : Program} {l : Nat} {args : Array Value} {W : World} {R : Ending → World → Prop} (h : YieldAt Fence.wide m P l args W R) : YieldAt Fence.wide m' P l args W R := by
  obtain ⟨fn, tmps, assign, body, hy, hR⟩ := h
  exact ⟨fn, tmps, assign, body, hy, hR.1, fun c cs _ => hR.2 c cs (room_wide _)⟩
theorem calls_depth11 {m m' : Nat} {P : Program} {f : FuncId} {args : Array Value} {W : World} {R : Ending → World → Prop} (h : CallsIn Fence.wide m P f args W R) : CallsIn Fence.wide m' P f args W R := callsIn_wide.2 (callsIn_wide.1 h)

theorem take_pre {L : List R11} {i : Nat} {x : R11} (h : L[i]? = some x) : L.take i ++ [x] = L.take (i + 1) ∧ L.take i ++ [x] <+: L := by
  obtain ⟨h0, e⟩ := List.getElem?_eq_some_iff.1 h
  have h1 : L.take i ++ [x] = L.take (i + 1) := by rw [List.take_succ_eq_append_getElem h0, e]
  exact ⟨h1, by rw [h1]; exact List.take_prefix _ _⟩

set_option maxRecDepth 100000 in
set_option maxHeartbeats 4000000 in
theorem rows_feed11 (n q : Nat) (u : Value) (L : List R11) (w : World) (hq : Box w q 23 #[u]) (hu : RdE ER w u L) (hl : L.length ≤ 1000) (S : Nat → Prop) (h1 : ¬ S q) (h2 : 0 < L.length → ∀ k, u.ownBlock = some k → ¬ S k) :
    Feeds3 n 47 #[.pointer (some ⟨q, 0, none⟩)] (fun r => #[rv11 r]) S (fun pre y _ => pre ++ [y] <+: L) (fun xs => xs = L) (fun pre => pre <+: L) w := fun l J Jx W hW hlW hJ hJx hY h0 => by
  have HQ := Lib.hid (hq.turn hW (fun f => f))
  have HU := Lib.hid (hu.later hW)
  have HY := Lib.hid hY; have HJ := Lib.hid hJ
  have HSQ := Lib.hid h1; have HSU := Lib.hid h2
  have H0 := Lib.hid h0
  obtain ⟨A, c, rfl⟩ := hu.shape
  have hc0 := HQ.out.cell 0
  clear hY hJ hJx hlW h0 hq hW h1 h2 hu
  refine calls_depth11 (m := 5) ?_
  refine callsIn_of_wp Try.func47 rfl trivial ?_ rfl
  simp only [Try.ntmps47, List.size_toArray, List.length_cons, List.length_nil, Nat.reduceAdd, Nat.reduceSub, Array.replicate_succ, Array.replicate_zero, List.push_toArray, List.append_toArray, List.nil_append, List.cons_append]
  gi_wp2
  gi_loopw [7] (fun x wr => ∃ i : Nat, x = .int .i64 (i : Int) ∧ i ≤ L.length ∧ J (L.take i) wr ∧ Box wr q 23 #[.slice A L.length c] ∧ RdE ER wr (.slice A L.length c) L) (fun x _ => L.length - (intOf x).toNat)
  case atStart => exact ⟨0, rfl, Nat.zero_le _, H0.out, HQ.out, HU.out⟩
  case round =>
    clear H0 HQ HU hc0
    obtain ⟨i, rfl, hi, hj, hqb, hub⟩ := hrel
    have HJ0 := Lib.hid hj; have HQ := Lib.hid hqb; have HU := Lib.hid hub
    clear hj hqb hub
    by_cases hlt : i < L.length
    · obtain ⟨x, hx⟩ : ∃ x, L[i]? = some x := ⟨_, List.getElem?_eq_getElem hlt⟩
      obtain ⟨ad, rfl, hc⟩ := row_at11 HU.out hx
      obtain ⟨a0, a1, a2, a3, a4, a5, a6, a7, a8⟩ := hc wr (Turn.refl _ _)
      have hil : (i : Int) < L.length := by omega
      have ht1 : Turn (fun _ => False) wr (wr.alloc (.cells (cells11 x) 51)) := (Turn.refl _ wr).alloc _
      have HT1 := Lib.hid ht1
      obtain ⟨fn, tm, asg, bo, hy, hrr⟩ := yield_depth11 (m' := 5 - 1) (HY.out (L.take i) x (wr.alloc (.cells (cells11 x) 51)) (HJ.out _ _ _ HJ0.out ht1.none) (take_pre hx).2)
      have HPR := Lib.hid (take_pre hx)
      have HRR := Lib.hid hrr
      clear hc hx ht1 hrr
      gi_wp2_with fail
      refine HRR.out.mono ?_
      intro e w2 hp
      rcases hp with ⟨rfl, hj2, hk2, -⟩ | ⟨rfl, hx2, -⟩
      · have HJ2 := Lib.hid hj2
        have HK2 := Lib.hid hk2
        clear hj2 hk2
        gi_wp2
        go_roundw
        case rel => exact ⟨i + 1, by go_num, hlt, by rw [← HPR.out.1]; exact HJ2.out, (HQ.out.turn HT1.out (fun f => f)).turn HK2.out HSQ.out, (HU.out.later HT1.out).turn HK2.out (HSU.out (by omega))⟩
        case measure => simp [intOf]; omega
      · have HX2 := Lib.hid hx2
        clear hx2
        gi_wp2
        refine bodyPost_ret (results_none rfl _ _ _) rfl ?_
        exact ⟨⟨_, rfl⟩, .inr ⟨L.take i ++ [x], HPR.out.2, HX2.out⟩⟩
    · obtain rfl : i = L.length := by omega
      have HJE : Hid (J L wr) := by have h := HJ0.out; rw [List.take_length] at h; exact h
      gi_wp2
      go_end0
      exact ⟨⟨_, rfl⟩, .inl ⟨L, rfl, HJE.out⟩⟩

set_option maxRecDepth 100000 in
set_option maxHeartbeats 2000000 in
theorem range_any11 (s : Value) (L : List R11) (a b : Int) (w : World) (h : SV11 w s L) : Calls Try.prog 25 #[s, .int .i64 a, .int .i64 b] w fun e w' => Range11 w (rangeR L a b) e w' := by
  have HWI := Lib.hid (within_any11 s L a b w h)
  have hl : (rangeR L a b).length ≤ 1000 := Nat.le_trans (List.length_filter_le _ _) h.right.2.2
  obtain ⟨p, rfl⟩ := h.ptr
  clear h
  generalize rangeR L a b = G at *
  go_enter Try.func25, Try.ntmps25
  go_wp2_with fail
  refine HWI.out.mono ?_
  rintro e w1 ⟨sl, rfl, hr, t1⟩
  obtain ⟨A, c, rfl⟩ := hr.shape
  have HR := Lib.hid hr; have HT := Lib.hid t1
  clear HWI hr t1
  go_wp2
  go_ret
  refine ⟨_, _, rfl, enters_of Try.func47 (by kernel_rfl) rfl, HT.out.alloc _, fun n S hS => ?_⟩
  have hb := Box.new w1 23 #[.slice A G.length c]
  have hsz := HT.out.size
  refine rows_feed11 n w1.heap.size _ G _ hb (HR.out.later ((Turn.refl _ w1).alloc _)) hl S (fun h => ?_) (fun hpos k hk h => ?_)
  · rcases hS _ h with ⟨t, v, hc⟩ | h
    · have := hc.lt; omega
    · rw [World.size_alloc] at h; omega
  · obtain ⟨x, hx⟩ : ∃ x, G[0]? = some x := ⟨_, List.getElem?_eq_getElem hpos⟩
    obtain ⟨ad, hA, hc⟩ := row_at11 HR.out hx
    subst hA
    obtain ⟨a0, a1, -⟩ := hc w1 (Turn.refl _ _)
    have hkb : ad.block = k := by simpa [Value.ownBlock] using hk
    rw [Nat.zero_mul] at a1
    have hlt : ad.block < w1.heap.size := by
      have := World.block_lt_of_cell? w1 _ a1
      rwa [eadd_block] at this
    rcases hS _ h with ⟨t, v, hc⟩ | h
    · have hc1 := hc.turn HT.out (fun f => f)
      rw [← hkb] at hc1
      have e0 : (ad.add 0).block = ad.block := eadd_block ad 0
      have h1 := a1
      rw [e0] at h1
      rw [hc1.cell] at h1
      have : ((#[v] : Array Value)[(ad.add 0).off + 1]?) = none := by simp
      rw [this] at h1
      cases h1
    · rw [World.size_alloc] at h; omega

end Go.Proofs.Ytnnlgeldjjknmaa

/-
  Stage 11, plain: lists of rows whose keys never fall; two of them laid into one; each key once; a map of cells.
-/
namespace Go.Proofs.Ytnnlgeldjjknmaa
open Go.RowKit

/-- Rows whose keys never fall. -/
def NoFall (l : List R11) : Prop := l.Pairwise fun a b => keyLt b.k a.k = false
/-- Two such lists as one; of one key those of the first come first. -/
def bothL : List R11 → List R11 → List R11
  | [], b => b
  | x :: a, [] => x :: a
  | x :: a, y :: b => if keyLt y.k x.k then y :: bothL (x :: a) b else x :: bothL a (y :: b)
termination_by a b => a.length + b.length
theorem both_nil (b : List R11) : bothL [] b = b := by unfold bothL; rfl
theorem both_end (a : List R11) : bothL a [] = a := by cases a <;> (unfold bothL; rfl)
theorem both_lt {x y : R11} {a b : List R11} (h : keyLt y.k x.k = true) : bothL (x :: a) (y :: b) = y :: bothL (x :: a) b := by
  rw [bothL, if_pos h]
theorem both_ge {x y : R11} {a b : List R11} (h : keyLt y.k x.k = false) : bothL (x :: a) (y :: b) = x :: bothL a (y :: b) := by
  rw [bothL, if_neg (by rw [h]; simp)]
theorem both_mem : ∀ (a b : List R11) {r : R11}, r ∈ bothL a b → r ∈ a ∨ r ∈ b
  | [], b, r, h => by rw [both_nil] at h; exact .inr h
  | x :: a, [], r, h => by rw [both_end] at h; exact .inl h
  | x :: a, y :: b, r, h => by
    cases hc : keyLt y.k x.k with
    | true =>
      rw [both_lt hc] at h
      rcases List.mem_cons.1 h with rfl | h
      · exact .inr (List.mem_cons_self ..)
      · exact (both_mem (x :: a) b h).imp id (List.mem_cons_of_mem _)
    | false =>
      rw [both_ge hc] at h
      rcases List.mem_cons.1 h with rfl | h
      · exact .inl (List.mem_cons_self ..)
      · exact (both_mem a (y :: b) h).imp (List.mem_cons_of_mem _) id
termination_by a b => a.length + b.length
theorem both_len : ∀ (a b : List R11), (bothL a b).length = a.length + b.length
  | [], b => by rw [both_nil]; simp
  | x :: a, [] => by rw [both_end]; simp
  | x :: a, y :: b => by
    cases hc : keyLt y.k x.k with
    | true =>
      rw [both_lt hc, List.length_cons, both_len (x :: a) b]
      simp only [List.length_cons]; omega
    | false =>
      rw [both_ge hc, List.length_cons, both_len a (y :: b)]
      simp only [List.length_cons]; omega
termination_by a b => a.length + b.length
theorem ge_tr {a b c : K9} (h : keyLt b a = false) (g : keyLt c b = false) : keyLt c a = false := by
  cases e : keyLt c a with
  | false => rfl
  | true =>
    by_cases ab : b = a
    · rw [ab, e] at g; cases g
    · rw [key_tr e (rises_key.tot _ _ ab h)] at g; cases g
theorem both_nofall : ∀ (a b : List R11), NoFall a → NoFall b → NoFall (bothL a b)
  | [], b, _, hb => by rw [both_nil]; exact hb
  | x :: a, [], ha, _ => by rw [both_end]; exact ha
  | x :: a, y :: b, ha, hb => by
    obtain ⟨a1, a2⟩ := List.pairwise_cons.1 ha
    obtain ⟨b1, b2⟩ := List.pairwise_cons.1 hb
    cases hc : keyLt y.k x.k with
    | true =>
      rw [both_lt hc]
      refine List.pairwise_cons.2 ⟨fun r hr => ?_, both_nofall (x :: a) b ha b2⟩
      have hxy : keyLt x.k y.k = false := by
        cases e : keyLt x.k y.k with
        | false => rfl
        | true => have := key_tr hc e; rw [key_irr] at this; cases this
      rcases both_mem (x :: a) b hr with hr | hr
      · rcases List.mem_cons.1 hr with rfl | hr
        · exact hxy
        · exact ge_tr hxy (a1 r hr)
      · exact b1 r hr
    | false =>
      rw [both_ge hc]
      refine List.pairwise_cons.2 ⟨fun r hr => ?_, both_nofall a (y :: b) a2 hb⟩
      rcases both_mem a (y :: b) hr with hr | hr
      · exact a1 r hr
      · rcases List.mem_cons.1 hr with rfl | hr
        · exact hc
        · exact ge_tr hc (b1 r hr)
termination_by a b => a.length + b.length
theorem cells_above {k : K9} : ∀ {l : List R11}, (∀ r ∈ l, keyLt k r.k = true) → cellsOf k l = []
  | [], _ => rfl
  | r :: t, h => by
    show (if r.k = k then _ else cellsOf k t) = []
    rw [if_neg (fun e => by have h1 := h r (List.mem_cons_self ..); rw [e, key_irr] at h1; cases h1)]
    exact cells_above (fun y hy => h y (List.mem_cons_of_mem _ hy))
theorem cells_cons (k : K9) (r : R11) (t : List R11) : cellsOf k (r :: t) = (if r.k = k then [r.c] else []) ++ cellsOf k t := by
  show (if r.k = k then r.c :: cellsOf k t else cellsOf k t) = _
  split <;> rfl
theorem both_cells (k : K9) : ∀ (a b : List R11), NoFall a → cellsOf k (bothL a b) = cellsOf k a ++ cellsOf k b
  | [], b, _ => by rw [both_nil]; rfl
  | x :: a, [], _ => by rw [both_end]; simp [cellsOf]
  | x :: a, y :: b, ha => by
    obtain ⟨a1, a2⟩ := List.pairwise_cons.1 ha
    cases hc : keyLt y.k x.k with
    | true =>
      rw [both_lt hc, cells_cons, both_cells k (x :: a) b ha, cells_cons k y b]
      by_cases e : y.k = k
      · rw [cells_above (k := k) (l := x :: a) (fun r hr => by
          rw [← e]
          rcases List.mem_cons.1 hr with rfl | hr
          · exact hc
          · have h1 := a1 r hr
            by_cases e2 : x.k = r.k
            · rw [← e2]; exact hc
            · exact key_tr hc (rises_key.tot _ _ (Ne.symm e2) h1))]
        rfl
      · rw [if_neg e]; rfl
    | false =>
      rw [both_ge hc, cells_cons, both_cells k a (y :: b) a2, cells_cons k x a, List.append_assoc]
termination_by a b => a.length + b.length
theorem rise_nofall {l : List R11} (h : RiseR l) : NoFall l := h.imp fun {a b} hab => by
  cases e : keyLt b.k a.k with
  | false => rfl
  | true => have := key_tr hab e; rw [key_irr] at this; cases this
/-- Rows with the same cells, key by key, come to the same. -/
theorem puts_cells {l m : List R11} (h : ∀ k, cellsOf k l = cellsOf k m) : putsR [] l = putsR [] m := by
  by_cases hk : ∀ k, moreO none (cellsOf k m) ≠ none
  · obtain ⟨r, e1, e2, e3⟩ := puts_some (l := m) (acc := []) List.Pairwise.nil hk
    rw [e1]
    exact puts_is e2 fun k => by rw [h k]; exact e3 k
  · obtain ⟨k, e⟩ : ∃ k, moreO none (cellsOf k m) = none := Classical.byContradiction fun hn => hk fun k e => hn ⟨k, e⟩
    rw [puts_not e, puts_not (k := k) (by rw [h k]; exact e)]
/-- What lists of rows laid into one come to. -/
structure TogR (ls : List (List R11)) (rows : List R11) : Prop where
  nofall : NoFall rows
  cells : ∀ k, cellsOf k rows = cellsOf k ls.flatten
  len : rows.length = ls.flatten.length
  mem : ∀ r ∈ rows, r ∈ ls.flatten
theorem TogR.none : TogR [] [] := ⟨List.Pairwise.nil, fun _ => rfl, rfl, fun _ h => by cases h⟩
theorem TogR.one {l : List R11} (h : RiseR l) : TogR [l] l := ⟨rise_nofall h, fun k => by simp, by simp, fun r hr => by simpa using hr⟩
theorem TogR.two {ls ms : List (List R11)} {a b : List R11} (ha : TogR ls a) (hb : TogR ms b) : TogR (ls ++ ms) (bothL a b) :=
  ⟨both_nofall a b ha.nofall hb.nofall, fun k => by rw [both_cells k a b ha.nofall, ha.cells, hb.cells, List.flatten_append, cellsOf_append],
    by rw [both_len, ha.len, hb.len, List.flatten_append, List.length_append],
    fun r hr => by
      rw [List.flatten_append]
      exact List.mem_append.2 ((both_mem a b hr).imp (ha.mem r) (hb.mem r))⟩

/-- A row put behind rows whose last has a key no higher. -/
theorem put_last : ∀ {l : List R11} {x : R11}, (∀ r ∈ l, keyLt r.k x.k = true) → putR x l = some (l ++ [x])
  | [], x, _ => rfl
  | r :: t, x, h => by
    unfold putR
    rw [if_pos (h r (List.mem_cons_self ..)), put_last (fun y hy => h y (List.mem_cons_of_mem _ hy))]
    rfl
theorem put_same11 : ∀ {l : List R11} {r x : R11}, (∀ y ∈ l, keyLt y.k x.k = true) → r.k = x.k → putR x (l ++ [r]) = (mergeC r.c x.c).map fun c => l ++ [⟨x.k, c⟩]
  | [], r, x, _, e => by
    show putR x [r] = _
    unfold putR
    rw [if_neg (by rw [e, key_irr]; simp), if_pos e]
    rfl
  | y :: t, r, x, h, e => by
    show putR x (y :: (t ++ [r])) = _
    unfold putR
    rw [if_pos (h y (List.mem_cons_self ..)), put_same11 (fun z hz => h z (List.mem_cons_of_mem _ hz)) e]
    cases mergeC r.c x.c <;> rfl

/-- Behind the first i of rows: what they come to, whose last has the last one's key. -/
structure OnceR (rows : List R11) (i : Nat) (M : List R11) : Prop where
  puts : putsR [] (rows.take i) = some M
  low : ∀ r ∈ M, ∀ x, rows[i]? = some x → r.k = x.k ∨ keyLt r.k x.k = true
theorem OnceR.start (rows : List R11) : OnceR rows 0 [] := ⟨rfl, fun r h => by cases h⟩
theorem puts_mem : ∀ {l acc m : List R11}, putsR acc l = some m → ∀ r ∈ m, (∃ x ∈ l, r.k = x.k) ∨ ∃ x ∈ acc, r.k = x.k
  | [], acc, m, h, r, hr => by cases h; exact .inr ⟨r, hr, rfl⟩
  | x :: l, acc, m, h, r, hr => by
    unfold putsR at h
    cases hp : putR x acc with
    | none => rw [hp] at h; cases h
    | some a =>
      rw [hp] at h
      rcases puts_mem (l := l) (acc := a) h r hr with ⟨y, hy, e⟩ | ⟨y, hy, e⟩
      · exact .inl ⟨y, List.mem_cons_of_mem _ hy, e⟩
      · have key : ∀ {l a : List R11}, putR x l = some a → ∀ y ∈ a, y.k = x.k ∨ ∃ z ∈ l, y.k = z.k := by
          intro l
          induction l with
          | nil => intro a h y hy; cases h; exact .inl (by rw [List.mem_singleton.1 hy])
          | cons z t ih =>
            intro a h y hy
            unfold putR at h
            split at h
            · cases hq : putR x t with
              | none => rw [hq] at h; cases h
              | some b =>
                rw [hq] at h
                cases h
                rcases List.mem_cons.1 hy with rfl | hy
                · exact .inr ⟨_, List.mem_cons_self .., rfl⟩
                · exact (ih hq y hy).imp id fun ⟨u, hu, e⟩ => ⟨u, List.mem_cons_of_mem _ hu, e⟩
            · split at h
              · cases hq : mergeC z.c x.c with
                | none => rw [hq] at h; cases h
                | some c =>
                  rw [hq] at h
                  cases h
                  rcases List.mem_cons.1 hy with rfl | hy
                  · exact .inl rfl
                  · exact .inr ⟨y, List.mem_cons_of_mem _ hy, rfl⟩
              · cases h
                rcases List.mem_cons.1 hy with rfl | hy
                · exact .inl rfl
                · exact .inr ⟨y, hy, rfl⟩
        rcases key hp y hy with e2 | ⟨z, hz, e2⟩
        · exact .inl ⟨x, List.mem_cons_self .., e.trans e2⟩
        · exact .inr ⟨z, hz, e.trans e2⟩
theorem nofall_at {rows : List R11} (h : NoFall rows) {i j : Nat} {a b : R11} (hij : i < j) (ha : rows[i]? = some a) (hb : rows[j]? = some b) : keyLt b.k a.k = false := by
  obtain ⟨h1, e1⟩ := List.getElem?_eq_some_iff.1 ha
  obtain ⟨h2, e2⟩ := List.getElem?_eq_some_iff.1 hb
  have := List.pairwise_iff_getElem.1 h i j h1 h2 hij
  rw [e1, e2] at this
  exact this
theorem OnceR.of {rows : List R11} (h : NoFall rows) {i : Nat} {M : List R11} (hp : putsR [] (rows.take i) = some M) : OnceR rows i M :=
  ⟨hp, fun r hr x hx => by
    rcases puts_mem hp r hr with ⟨y, hy, e⟩ | ⟨y, hy, e⟩
    · obtain ⟨j, hj⟩ := List.mem_iff_getElem?.1 hy
      rw [List.getElem?_take] at hj
      split at hj
      · have h1 := nofall_at h (by assumption) hj hx
        by_cases e2 : y.k = x.k
        · exact .inl (e.trans e2)
        · exact .inr (by rw [e]; exact rises_key.tot _ _ (Ne.symm e2) h1)
      · cases hj
    · cases hy⟩
theorem puts_take {rows : List R11} {i : Nat} {x : R11} (hx : rows[i]? = some x) : putsR [] (rows.take (i + 1)) = (putsR [] (rows.take i)).bind fun a => putR x a := by
  obtain ⟨hi, e⟩ := List.getElem?_eq_some_iff.1 hx
  rw [List.take_succ_eq_append_getElem hi, e, putsR_append]
  congr 1
  funext a
  show (putR x a).bind _ = _
  cases putR x a <;> rfl
/-- A key that is not the last one's: a new row. -/
theorem once_new {rows : List R11} (hn : NoFall rows) {i : Nat} {M : List R11} {x : R11} (h : OnceR rows i M) (hx : rows[i]? = some x) (hl : ∀ r, M.getLast? = some r → r.k ≠ x.k) : OnceR rows (i + 1) (M ++ [x]) := by
  refine OnceR.of hn ?_
  rw [puts_take hx, h.puts]
  have hr := (puts_rise h.puts).1
  have hall : ∀ r ∈ M, keyLt r.k x.k = true := by
    rcases List.eq_nil_or_concat M with e | ⟨t, z, e⟩
    · subst e; intro r hr; cases hr
    · rw [List.concat_eq_append] at e
      subst e
      have hz : keyLt z.k x.k = true := by
        rcases h.low z (by simp) x hx with e | e
        · exact absurd e (hl z (by simp))
        · exact e
      intro r hr2
      rcases List.mem_append.1 hr2 with h1 | h1
      · exact key_tr ((List.pairwise_append.1 hr).2.2 r h1 z (by simp)) hz
      · rw [List.mem_singleton.1 h1]; exact hz
  exact put_last hall
/-- The last one's key: its cell merged. -/
theorem once_same {rows : List R11} {i : Nat} {t : List R11} {z x : R11} (h : OnceR rows i (t ++ [z])) (hx : rows[i]? = some x) (e : z.k = x.k) : putsR [] (rows.take (i + 1)) = (mergeC z.c x.c).map fun c => t ++ [⟨x.k, c⟩] := by
  rw [puts_take hx, h.puts]
  have hr := (puts_rise h.puts).1
  refine put_same11 (fun y hy => ?_) e
  rw [← e]
  exact (List.pairwise_append.1 hr).2.2 y hy z (by simp)
theorem puts_halt {rows : List R11} {i : Nat} (h : putsR [] (rows.take i) = none) : putsR [] rows = none := by
  rw [← List.take_append_drop i rows, putsR_append, h]
  rfl

/-- What is right stays right. -/
theorem right_merge {a b c : Cl} (ha : rightC a = true) (hb : rightC b = true) (h1 : 1 ≤ a.n) (h2 : 1 ≤ b.n) (h : mergeC a b = some c) : rightC c = true ∧ 1 ≤ c.n := by
  unfold mergeC at h
  rw [if_neg (by omega), if_neg (by omega)] at h
  split at h
  · cases h
    refine ⟨?_, by show 1 ≤ a.n + b.n; omega⟩
    unfold rightC at ha hb ⊢
    rw [if_neg (by omega)] at ha hb
    rw [if_neg (by show ¬ a.n + b.n = 0; omega)]
    simp only [Bool.and_eq_true, decide_eq_true_iff] at ha hb
    have e1 : decide (0 < a.n + b.n) = true := decide_eq_true (by omega)
    have e2 : decide (min a.lo b.lo ≤ max a.hi b.hi) = true := decide_eq_true (by omega)
    have e3 : decide (1 < a.n + b.n) = true := decide_eq_true (by omega)
    simp only [e1, e2, e3, Bool.true_or, Bool.and_true]
  · cases h

/-- All that rows come to is right, if they are. -/
theorem putR_fine {x : R11} (hx : okRow x = true ∧ okC x.c) : ∀ {l m : List R11}, (∀ r ∈ l, okRow r = true ∧ okC r.c) → putR x l = some m → ∀ r ∈ m, okRow r = true ∧ okC r.c
  | [], m, _, h, r, hr => by cases h; rw [List.mem_singleton.1 hr]; exact hx
  | z :: t, m, hl, h, r, hr => by
    unfold putR at h
    split at h
    · cases hq : putR x t with
      | none => rw [hq] at h; cases h
      | some b =>
        rw [hq] at h
        cases h
        rcases List.mem_cons.1 hr with rfl | hr
        · exact hl _ (List.mem_cons_self ..)
        · exact putR_fine hx (fun y hy => hl y (List.mem_cons_of_mem _ hy)) hq r hr
    · split at h
      · cases hq : mergeC z.c x.c with
        | none => rw [hq] at h; cases h
        | some c =>
          rw [hq] at h
          cases h
          rcases List.mem_cons.1 hr with rfl | hr
          · obtain ⟨z1, z2⟩ := hl z (List.mem_cons_self ..)
            unfold okRow at z1 hx ⊢
            rw [Bool.and_eq_true, decide_eq_true_iff] at z1 hx
            have g := right_merge z1.2 hx.1.2 z1.1 hx.1.1 hq
            rw [Bool.and_eq_true, decide_eq_true_iff]
            exact ⟨⟨g.2, g.1⟩, okC_merge z2 hx.2 hq⟩
          · exact hl r (List.mem_cons_of_mem _ hr)
      · cases h
        rcases List.mem_cons.1 hr with rfl | hr
        · exact hx
        · exact hl r hr
theorem puts_fine : ∀ {l acc m : List R11}, (∀ r ∈ l, okRow r = true ∧ okC r.c) → (∀ r ∈ acc, okRow r = true ∧ okC r.c) → putsR acc l = some m → ∀ r ∈ m, okRow r = true ∧ okC r.c
  | [], acc, m, _, ha, h => by cases h; exact ha
  | x :: l, acc, m, hl, ha, h => by
    unfold putsR at h
    cases hp : putR x acc with
    | none => rw [hp] at h; cases h
    | some a =>
      rw [hp] at h
      exact puts_fine (l := l) (fun r hr => hl r (List.mem_cons_of_mem _ hr)) (putR_fine (hl x (List.mem_cons_self ..)) ha hp) h
theorem right_of11 : ∀ {l : List R11}, RiseR l → (∀ r ∈ l, okRow r = true) → rightR l = true
  | [], _, _ => rfl
  | r :: t, h, ho => by
    obtain ⟨h1, h2⟩ := List.pairwise_cons.1 h
    have ih := right_of11 h2 (fun y hy => ho y (List.mem_cons_of_mem _ hy))
    unfold rightR
    rw [ho r (List.mem_cons_self ..), ih]
    cases t with
    | nil => rfl
    | cons s u => simp only [h1 s (List.mem_cons_self ..)]; rfl
theorem putR_len11 : ∀ {l a : List R11} {x : R11}, putR x l = some a → a.length ≤ l.length + 1
  | [], a, x, h => by cases h; simp
  | z :: t, a, x, h => by
    unfold putR at h
    split at h
    · cases hq : putR x t with
      | none => rw [hq] at h; cases h
      | some b =>
        rw [hq] at h
        cases h
        have := putR_len11 hq
        simp only [List.length_cons]; omega
    · split at h
      · cases hq : mergeC z.c x.c with
        | none => rw [hq] at h; cases h
        | some c => rw [hq] at h; cases h; simp
      · cases h; simp
theorem puts_len12 : ∀ {l acc m : List R11}, putsR acc l = some m → m.length ≤ acc.length + l.length
  | [], acc, m, h => by cases h; simp
  | x :: l, acc, m, h => by
    unfold putsR at h
    cases hp : putR x acc with
    | none => rw [hp] at h; cases h
    | some a =>
      rw [hp] at h
      have h1 := putR_len11 hp
      have h2 := puts_len12 (l := l) (acc := a) (m := m) h
      simp only [List.length_cons]
      omega
/-- Rows put one to the other are a segment's. -/
theorem puts_right {l m : List R11} (hl : ∀ r ∈ l, okRow r = true ∧ okC r.c) (h : putsR [] l = some m) (hn : l.length ≤ 1000) : rightR m = true ∧ (∀ r ∈ m, okC r.c) ∧ m.length ≤ 1000 := by
  have ho := puts_fine hl (fun r h => by cases h) h
  refine ⟨right_of11 (puts_rise h).1 fun r hr => (ho r hr).1, fun r hr => (ho r hr).2, ?_⟩
  have := puts_len12 h
  simp at this
  omega

end Go.Proofs.Ytnnlgeldjjknmaa

/-
  A region that draws its order, walked by hand (drawn_region's words), in a round of a range over a function. No type is named here.
-/
namespace Go.Proofs.Ytnnlgeldjjknmaa
open Go.RowKit

/-- Nothing but going on is owed. -/
def goesOn (Q : Exit → Act → World → Prop) : Exit → Act → World → Prop
  | .normal, a, w => Q .normal a w
  | _, _, _ => False
theorem goes_on {Q : Exit → Act → World → Prop} {a : Act} {w : World} (h : Q .normal a w) : goesOn Q .normal a w := h

section
variable {P : Program} {l0 n : Nat} {ops : Array Oper} {md : Region.Mode} {Q : Exit → Act → World → Prop}
theorem op_in {o : Oper} {a : Act} {w : World} {K K' : Act → World → Prop} (hd : noDefer o.op = true) (hK : ∀ a w, K a w → K' a w) (h : o.wp P a w K (goesOn Q) ∨ (o.asks P a w ∧ LetsOut (goesOn Q))) :
    o.wpIn (Fence.wide.inRound l0) n P a w K' Q := by
  rcases h with h | ⟨_, a', w', h⟩
  · unfold Oper.wp at h
    unfold Oper.wpIn
    refine ⟨fun f _ => trivial, ?_⟩
    rw [Oper.semAt_eq _ _ _ (noDefer_ne hd)]
    generalize (execOp a.eval o).run P w = r at *
    rcases r with ⟨x, w'⟩ | ⟨x, w'⟩
    · cases x <;> simp only [Oper.upon] at h <;> simp only [Oper.uponIn]
      case value => exact hK _ _ h
      case skip => exact hK _ _ h
      case defer => exact hK _ _ h
      case enter f args =>
        refine ⟨fun h0 => (by cases h0), CallsIn.inRound l0 (callsIn_wide.2 (h.mono fun e w'' he => ?_))⟩
        cases e with
        | returned v => exact hK _ _ he
        | panicked c => exact he.elim
        | outgrown =>
          obtain ⟨a', w', h⟩ := he
          exact h.elim
      case row row args =>
        refine ⟨fun h0 => (by cases h0), fun c cs _ => ?_⟩
        obtain ⟨v, w'', hv, hs⟩ := h c cs
        exact ⟨v, w'', hK _ _ hv, stepsIn_wide.2 hs⟩
    · cases x <;> simp only [Oper.upon] at h
      exact h.elim
  · exact h.elim
theorem any_in (hnd : ∀ o ∈ ops.toList, noDefer o.op = true) : ∀ (fuel : Nat) (listed : Array Bool) (a : Act) (w : World), wpAny P md ops (goesOn Q) fuel listed a w → wpAnyIn (Fence.wide.inRound l0) n P md ops Q fuel listed a w
  | 0, _, _, _, h => ⟨h.1, h.2⟩
  | fuel + 1, listed, a, w, h => ⟨fun h0 => h.1 h0, fun i hi => by
    have h1 := h.2 i hi
    unfold wpOp at h1
    unfold wpOpIn
    cases ho : ops[i]? with
    | none =>
      simp only [ho] at h1
      exact any_in hnd fuel _ a w h1
    | some o =>
      simp only [ho] at h1
      have hm : noDefer o.op = true := hnd o (Array.mem_toList_iff.2 (Array.mem_of_getElem? ho))
      by_cases hw : Region.wanted o (yielded ops a.tmps)
      · simp only [hw, if_true] at h1 ⊢
        exact op_in hm (fun a' w' => any_in hnd fuel _ a' w') h1
      · simp only [hw] at h1 ⊢
        exact ⟨fun f _ => trivial, any_in hnd fuel _ _ _ h1⟩⟩
theorem drawn_region_in (S : World → Prop) (zs : List Nat) {id : Nat} {ts : Array Value} {ds : List Deferred} {w : World} (hnd : (ops.toList.all fun o => noDefer o.op) = true) (hm : P.follows .mixedOrders = true)
    (h : Drawn P ops (goesOn Q) S zs ops.size (Array.replicate ops.size false) ts ds w.drew) : (Code.region id ops true).wpIn (Fence.wide.inRound l0) n P Q { tmps := ts, defers := ds } w :=
  wpIn_region_any hm (any_in (fun o ho => by rw [List.all_eq_true] at hnd; exact hnd o ho) _ _ _ _ (wpAny_ofG _ _ _ _ (h Shutd.start)))
end

end Go.Proofs.Ytnnlgeldjjknmaa

/-
  A region that draws its order, walked by hand: an operation is taken first, the activation written out.
-/
namespace Go.Proofs.Ytnnlgeldjjknmaa
open Go.RowKit

theorem take_at {F : Fence} {n : Nat} {P : Program} {ops : Array Oper} {Q : Exit → Act → World → Prop} {md : Region.Mode} (i d : Nat) {oi : Oper} (v : Value) {fuel : Nat} {listed : Array Bool} {ts : Array Value} {ds : List Deferred} {w : World}
    (hro : F.round = none) (hi : ops[i]? = some oi) (hd : oi.dst = some d)
    (hs : Region.noSelect ops = true) (hf : Region.free md ops listed i = true) (hr : (Region.ready md ops listed).contains i = true)
    (hQ : ∀ c (a : Act) w, Q (.panic c) (a.put oi.dst v) w → Q (.panic c) a w) (hy : YieldsFenced P ops oi v { tmps := ts, defers := ds })
    (h : wpAnyIn F n P md ops Q fuel (listed.setIfInBounds i true) { tmps := ts.setIfInBounds d v, defers := ds } w) : wpAnyIn F n P md ops Q (fuel + 1) listed { tmps := ts, defers := ds } w := by
  refine wpAnyIn_take hro hi hs hf hr hQ hy ?_
  rw [hd]
  exact h

end Go.Proofs.Ytnnlgeldjjknmaa

/-
  append onto a row of one's own that has room: the row stays where it is. No type is named here.
-/
namespace Go.Proofs.Ytnnlgeldjjknmaa
open Go.RowKit

theorem run_app_room {P : Program} (w : World) (t tx ty e : TypeId) (i : TypeInfo) (ht : P.underlying t = some (.slice e)) (hi : P.info? e = some i)
    (g n cap : Nat) (xs : List Value) (hown : w.ownsRow 0 e i.size (.slice (some ⟨g, 0, none⟩) n cap) n xs) (x : Value) (m : Nat) (news : List Value) (hs : Src P i.size tx x m news w) (hroom : n + m ≤ cap) :
    ∃ w', (Builtin.append_ #[t, tx] ty #[.slice (some ⟨g, 0, none⟩) n cap, x]).run P w = .ok (.slice (some ⟨g, 0, none⟩) (n + m) cap) w' ∧ w'.ownsRow 0 e i.size (.slice (some ⟨g, 0, none⟩) (n + m) cap) (n + m) (xs ++ news) ∧ w.grownBy w' (some g) := by
  have hlen : (xs ++ news).length = (n + m) * i.size := by rw [List.length_append, hown.1, hs.newsLen, Nat.add_mul]
  rcases hown.2 with ⟨e1, _⟩ | ⟨g', cap', cur, e1, hb0, hg, hnc, hcm, hcs, htake⟩
  · cases e1
  · cases e1
    have hfit : n * i.size + news.length ≤ cur.size := by rw [hs.newsLen, hcs, ← Nat.add_mul]; exact Nat.mul_le_mul_right _ hroom
    have hst := run_storeCells_at P g (n * i.size) e news 0 cur w hg (by simpa using hfit) hs.one
    simp only [Nat.add_zero] at hst
    have hr : (Builtin.append_ #[t, tx] ty #[.slice (some ⟨g, 0, none⟩) n cap, x]).run P w =
        .ok (.slice (some ⟨g, 0, none⟩) (n + m) cap) (w.setRow g (cur.toList.take (n * i.size) ++ news ++ cur.toList.drop (n * i.size + news.length)).toArray) := by
      rcases hs.kind with ⟨e', hk⟩ | hk <;> simp [Builtin.append_, run_underlying ht, run_underlying hk, sizeOf, typeInfo, hi, hs.len, hs.cells, hroom, Addr.add_lit, hst]
    refine ⟨_, hr, ⟨hlen, .inr ⟨g, cap, _, rfl, hb0, setRow_heap w g cur _ e _ hg, hroom, hcm, ?_, ?_⟩⟩, ⟨rfl, rfl, rfl, by simp, fun k _ hk => setRow_other w g k _ (fun e => hk (by simp [e]))⟩⟩
    · simp only [List.size_toArray, List.length_append, List.length_take, List.length_drop, Array.length_toList]
      omega
    · rw [htake, ← hlen]
      exact List.take_left
theorem app_room {P : Program} {T : Type} {E : El T} {tS e : TypeId} {z : Value} {by' : Nat} (ht : P.underlying tS = some (.slice e)) (hi0 : (P.info? e).map (fun i => (i.zero, i.size, i.bytes)) = some (some z, E.sz, by'))
    (w : World) (tx ty : TypeId) (g n c : Nat) (l : List T) (hown : OwE E e w (.slice (some ⟨g, 0, none⟩) n c) l) (y : Value) (m : List T) (hy : Src P E.sz tx y m.length (E.flat m) w) (hroom : l.length + m.length ≤ c) :
    ∃ w', (Builtin.append_ #[tS, tx] ty #[.slice (some ⟨g, 0, none⟩) n c, y]).run P w = .ok (.slice (some ⟨g, 0, none⟩) (l.length + m.length) c) w' ∧ OwE E e w' (.slice (some ⟨g, 0, none⟩) (l.length + m.length) c) (l ++ m) ∧ Turn (fun k => k = g) w w' := by
  obtain ⟨i, hi, hz0, h1, h2⟩ := info_parts hi0
  obtain ⟨_, _, hsh⟩ := hown.shape
  obtain rfl : n = l.length := by injection hsh
  unfold OwE at hown
  rw [← h1] at hown hy
  obtain ⟨w', hr, g1, g2⟩ := run_app_room (P := P) w tS tx ty e i ht hi g _ c _ hown y m.length _ hy hroom
  refine ⟨w', hr, ?_, (Turn.refl _ w).grown g2 (fun k _ e => by cases e; rfl)⟩
  unfold OwE
  rw [List.length_append, E.flat_append, ← h1]
  exact g1

/-- append where there is room, in a round of a range over a function. -/
theorem wpListIn_room {F : Fence} {k : Nat} {P : Program} {T : Type} {E : El T} {tS e : TypeId} {z : Value} {by' : Nat} (ht : P.underlying tS = some (.slice e)) (hi0 : (P.info? e).map (fun i => (i.zero, i.size, i.bytes)) = some (some z, E.sz, by'))
    (w : World) {ops : Array Oper} {rest : List Oper} {o : Oper} {a : Act} {Q : Exit → Act → World → Prop} (hgd : o.guard = none) (s x : Operand)
    (ho : o.op = .call { callee := .builtin .append, args := #[s, x], argTypes := #[tS, tS] }) (g n c : Nat) (l : List T) (hs : a.eval s = .slice (some ⟨g, 0, none⟩) n c) (hown : OwE E e w (.slice (some ⟨g, 0, none⟩) n c) l)
    (y : Value) (hx : a.eval x = y) (m : List T) (hy : Src P E.sz tS y m.length (E.flat m) w) (hroom : l.length + m.length ≤ c)
    (h : ∀ w', OwE E e w' (.slice (some ⟨g, 0, none⟩) (l.length + m.length) c) (l ++ m) → Turn (fun k => k = g) w w' → wpListIn F k P ops Q rest (a.put o.dst (.slice (some ⟨g, 0, none⟩) (l.length + m.length) c)) w') :
    wpListIn F k P ops Q (o :: rest) a w := by
  refine wpListIn_plain hgd fun K hK' => ?_
  obtain ⟨w', hrun, r1, r2⟩ := app_room (P := P) ht hi0 w tS o.type g n c l hown y m hy hroom
  unfold Oper.wpIn
  refine ⟨?_, ?_⟩
  · simp [Oper.about, ho, resolve, Target.leads, Sem.run_pure]
  · rw [Oper.semAt_plain F _ _ (by rw [ho]; intro c hc'; cases hc')]
    simp [execOp, ho, resolve, invoke, builtin, hs, hx, hrun, Result.andThen]
    exact hK' _ _ (h w' r1 r2)
/-- A row of one's own holds cells: no record of a loop is in it. -/
theorem holds_own {T : Type} {E : El T} {e : TypeId} {β : Type} (D : Nat) (v : β → Value) (f : β → List T) : Holds D (fun s W => OwE E e W (v s) (f s)) := fun s A B hs ht => by
  refine hs.turn ht fun k hk => ?_
  rintro ⟨_, o, ho, hc⟩
  rcases hs.form with ⟨e1, _⟩ | ⟨g, cap, cur, e1, hb, _⟩
  · rw [e1] at hk; cases hk
  · rw [e1] at hk
    cases hk
    rw [show A.heap[g]? = _ from hb] at ho
    cases ho
    cases hc
/-- Where a row of one's own turns alone, what holds no cells stays. -/
theorem own_still {w w' : World} {g B : Nat} (ht : Turn (fun k => k = g) w w') (hw : ∀ o, w.heap[g]? = some o → o.isCells = true) : Still B w w' := ⟨ht.size, fun k o _ hk ho => by
  by_cases e : k = g
  · subst e
    rw [hw o hk] at ho
    cases ho
  · exact (ht.block k (Array.getElem?_eq_some_iff.1 hk).1 e).trans hk⟩
theorem own_cells {T : Type} {E : El T} {e : TypeId} {w : World} {v : Value} {l : List T} {g : Nat} (h : OwE E e w v l) (hv : v.ownBlock = some g) : ∀ o, w.heap[g]? = some o → o.isCells = true := fun o ho => by
  rcases h.form with ⟨e1, _⟩ | ⟨g', cap, cur, e1, hb, _⟩
  · rw [e1] at hv; cases hv
  · rw [e1] at hv
    cases hv
    rw [show w.heap[g']? = _ from hb] at ho
    cases ho
    rfl
/-- What a range has told: as far as a place of the list, one by one. -/
theorem pre_at10 {A : Type} {L pre : List A} {y : A} (hp : pre ++ [y] <+: L) : L[pre.length]? = some y ∧ pre.length < L.length := by
  obtain ⟨r, hr⟩ := hp
  have h : L[pre.length]? = some y := by
    rw [← hr, List.append_assoc, List.getElem?_append_right (Nat.le_refl _), Nat.sub_self]; rfl
  exact ⟨h, (List.getElem?_eq_some_iff.1 h).1⟩
theorem box_ne10 {w : World} {i g : Nat} {t t' : TypeId} {cs cs' : Array Value} (h : Box w i t cs) (h' : Box w g t' cs') (ht : t ≠ t') : i ≠ g := by
  rintro rfl
  have e := (show w.heap[i]? = _ from h).symm.trans h'
  injection e with e
  injection e with _ e3
  exact ht e3
theorem box_not_own {T : Type} {E : El T} {e t : TypeId} {w : World} {v : Value} {l : List T} {i g : Nat} {cs : Array Value} (h : Box w i t cs) (h' : OwE E e w v l) (hv : v.ownBlock = some g) (ht : e ≠ t) : i ≠ g := by
  rintro rfl
  exact h'.not_box h ht hv

end Go.Proofs.Ytnnlgeldjjknmaa

/-
  Stage 11: Part: the rows of hours, gathered by a range over a function.
-/
namespace Go.Proofs.Ytnnlgeldjjknmaa
open Go.RowKit Go.Shelf
attribute [local go_sem] Oper.semAt_some wide_fn

/-- A segment that is being made: its box, its rows, new since w2; the box that leads to it. -/
structure PartI (w2 : World) (g : Nat) (pre : List R11) (V : World) : Prop where
  out : ∃ v, Box V g 74 #[v] ∧ OwE ER 51 V v pre ∧ ∀ k, v.ownBlock = some k → w2.heap.size ≤ k
  ptr : Box V (g + 1) 27 #[.pointer (some ⟨g, 0, none⟩)]
  turn : Turn (fun k => k = g) w2 V
theorem holds_part (D : Nat) (w2 : World) (g : Nat) (hD : w2.heap.size ≤ D) : Holds D (fun pre V => PartI w2 g pre V) := fun s A B hs ht => by
  obtain ⟨⟨v, h1, h2, h3⟩, h4, h5⟩ := hs
  exact ⟨⟨v, h1.odd ht, holds_own (E := ER) (e := 51) D (fun _ : Unit => v) (fun _ => s) () A B h2 ht, h3⟩, h4.odd ht, h5.trans ht (fun k hk e => by have := e.1; omega)⟩

/-- .. in a round, behind the row that has come. -/
structure PartB (w2 : World) (g : Nat) (pre : List R11) (y : R11) (q : Nat) (V : World) : Prop where
  out : ∃ v, Box V g 74 #[v] ∧ OwE ER 51 V v pre ∧ (∀ k, v.ownBlock = some k → w2.heap.size ≤ k) ∧ v.ownBlock ≠ some q
  ptr : Box V (g + 1) 27 #[.pointer (some ⟨g, 0, none⟩)]
  row : Box V q 51 (cells11 y)
  turn : Turn (fun k => k = g) w2 V
  pre : pre.length + 1 ≤ 1000
theorem PartB.odd {w2 A B : World} {g q D : Nat} {pre : List R11} {y : R11} (h : PartB w2 g pre y q A) (hD : w2.heap.size ≤ D) (ht : Turn (odd D A) A B) : PartB w2 g pre y q B := by
  obtain ⟨⟨v, h1, h2, h3, h4⟩, h5, h6, h7, h8⟩ := h
  exact ⟨⟨v, h1.odd ht, holds_own (E := ER) (e := 51) D (fun _ : Unit => v) (fun _ => pre) () A B h2 ht, h3, h4⟩, h5.odd ht, h6.odd ht, h7.trans ht (fun k hk e => by have := e.1; omega), h8⟩
theorem PartI.round {w2 V : World} {g : Nat} {pre G : List R11} {y : R11} (h : PartI w2 g pre V) (hp : pre ++ [y] <+: G) (hG : G.length ≤ 1000) : PartB w2 g pre y V.heap.size (V.alloc (.cells (cells11 y) 51)) := by
  obtain ⟨⟨v, h1, h2, h3⟩, h4, h5⟩ := h
  have ht : Turn (fun _ => False) V (V.alloc (.cells (cells11 y) 51)) := (Turn.refl _ V).alloc _
  refine ⟨⟨v, h1.alloc _, h2.later ht, h3, fun e => by have := h2.lt e; omega⟩, h4.alloc _, Box.new V _ _, h5.alloc _, ?_⟩
  obtain ⟨r, hr⟩ := hp
  have := congrArg List.length hr
  simp only [List.length_append, List.length_cons, List.length_nil] at this
  omega

set_option maxRecDepth 100000 in
set_option maxHeartbeats 8000000 in
theorem part_any11 (s : Value) (L : List R11) (a b : Int) (w : World) (h : SV11 w s L) : Calls Try.prog 24 #[s, .int .i64 a, .int .i64 b] w fun e w' => Part11 w (rangeR L a b) e w' := by
  have hG : rightR (rangeR L a b) = true ∧ (∀ r ∈ rangeR L a b, okC r.c) ∧ (rangeR L a b).length ≤ 1000 := by
    obtain ⟨h1, h2, h3⟩ := h.right
    obtain ⟨g1, g2⟩ := rightR_spec h1
    exact ⟨right_of11 (g1.filter _) (fun r hr => g2 r (List.mem_filter.1 hr).1), fun r hr => h2 r (List.mem_filter.1 hr).1, Nat.le_trans (List.length_filter_le _ _) h3⟩
  have HG := Lib.hid hG
  have hlen := hG.2.2
  have HRG : Hid (∀ W, Turn (fun _ => False) w W → Calls Try.prog 25 #[s, .int .i64 a, .int .i64 b] W fun e w' => Range11 W (rangeR L a b) e w') := fun W ht => range_any11 s L a b W (h.later ht)
  obtain ⟨p, rfl⟩ := h.ptr
  clear h hG
  generalize rangeR L a b = G at *
  obtain ⟨g, hg⟩ : ∃ g : Nat, g = w.heap.size := ⟨_, rfl⟩
  obtain ⟨w1, hw1⟩ : ∃ w1, w1 = (w.alloc (.cells #[.slice none 0 0] 74)).alloc (.cells #[.pointer (some ⟨w.heap.size, 0, none⟩)] 27) := ⟨_, rfl⟩
  have HT1 : Hid (Turn (fun _ => False) w w1) := by rw [hw1]; exact ((Turn.refl _ w).alloc _).alloc _
  have HB1 : Hid (Box w1 g 74 #[.slice none 0 0]) := by rw [hw1, hg]; exact (Box.new w _ _).alloc _
  have HP1 : Hid (Box w1 (g + 1) 27 #[.pointer (some ⟨g, 0, none⟩)]) := by
    rw [hw1, hg]
    have h := Box.new (w.alloc (.cells #[.slice none 0 0] 74)) 27 #[.pointer (some ⟨w.heap.size, 0, none⟩)]
    rw [World.size_alloc] at h
    exact h
  have HW1 := Lib.hid hw1; have HGG := Lib.hid hg
  clear hw1 hg
  refine (callsIn_wide (n := 5)).1 ?_
  refine callsIn_of_wp_marks Try.func24 rfl trivial ?_ rfl
  simp only [Try.ntmps24, List.size_toArray, List.length_cons, List.length_nil, Nat.reduceAdd, Nat.reduceSub, Array.replicate_succ, Array.replicate_zero, List.push_toArray, List.append_toArray, List.nil_append, List.cons_append]
  refine wpIn_wide.2 ?_
  go_wp2_with fail
  rw [← HW1.out, ← HGG.out]
  refine (HRG.out w1 HT1.out).mono ?_
  rintro e w2 ⟨gf, lb, rfl, heg, t2, hfe⟩
  have HT2 := Lib.hid t2
  have HB2 := Lib.hid (HB1.out.turn t2 (fun f => f)); have HP2 := Lib.hid (HP1.out.turn t2 (fun f => f))
  have HFE := Lib.hid (hfe 4 (fun k => k = g ∨ w2.heap.size ≤ k) (fun k e => by
    rcases e with rfl | e
    · exact .inl ⟨_, _, HB1.out⟩
    · exact .inr e))
  have HGS : Hid (g + 1 < w2.heap.size) := HP2.out.lt
  have H0 : Hid (PartI w2 g [] w2) := ⟨⟨_, HB2.out, OwE.nil _, fun k e => by simp [Value.ownBlock] at e⟩, HP2.out, Turn.refl _ _⟩
  clear hfe t2
  go_wp2_with fail
  refine (wpIn_wide (n := 5)).1 ?_
  refine' over4 (n := 5) (by omega) (gf := gf) (lb := lb) rfl heg HFE.out (Turn.refl _ _) (Or.inr (Nat.le_succ _)) (fun _ => rfl)
    (fun (pre : List R11) V => PartI w2 g pre V) (fun _ _ _ => False) (holds_part _ w2 g (Nat.le_refl _)) (fun _ _ _ _ h _ => h) H0.out (fun pre y a' V => ∃ q, a' = { tmps := #[.pointer p, .int .i64 a, .int .i64 b, undef, undef, undef, .pointer none, .pointer (some ⟨g + 1, 0, none⟩), .pointer (some ⟨q, 0, none⟩), .agg #[.slice none 0 0], .pointer (some ⟨g, 0, none⟩), .pointer p, .int .i64 a, .int .i64 b, .func (.func gf) #[] lb, rv11 y, undef, undef, undef, undef, undef, undef, undef, undef, undef, undef, undef], defers := [] } ∧ PartB w2 g pre y q V) ?hax ?assign ?body ?done ?stop
  case hax =>
    rintro pre y a' A B ⟨q, h1, h2⟩ ht
    exact ⟨q, h1, h2.odd (Nat.le_refl _) ht⟩
  case assign =>
    intro l0 pre x W K hi hgv hK
    have HK := Lib.hid hK
    have HB := Lib.hid (hi.round hgv hlen)
    clear hK hi hgv
    gi_wp2
    exact HK.out _ _ ⟨W.heap.size, rfl, HB.out⟩ ((Turn.refl _ W).alloc _)
  case stop =>
    rintro D c0 pre V _ _ h _
    exact h.elim
  case body =>
    rintro l0 pre y a' V ⟨q, rfl, hpb⟩
    obtain ⟨⟨v, hb, ho, hn, hqn⟩, hp, hq, ht, hpl⟩ := hpb
    obtain ⟨A, c, rfl⟩ := ho.shape
    have HSK : Hid (∀ W, Turn (fun k => (Value.slice A pre.length c).ownBlock = some k) V W → (W.cell? ⟨g + 1, 0, none⟩ = some (.pointer (some ⟨g, 0, none⟩)) ∧ W.cell? ⟨g, 0, none⟩ = some (.slice A pre.length c)) ∧ Turn (fun k => (Value.slice A pre.length c).ownBlock = some k) V W) := fun W ht2 =>
      ⟨⟨(hp.turn ht2 (fun e => by have := hn _ e; have := HGS.out; omega)).cell 0, (hb.turn ht2 (fun e => by have := hn _ e; have := HGS.out; omega)).cell 0⟩, ht2⟩
    have HQ := Lib.hid hq
    have HB := Lib.hid hb; have HO := Lib.hid ho; have HN := Lib.hid hn; have HP := Lib.hid hp; have HTV := Lib.hid ht
    have HQN := Lib.hid hqn
    clear hb ho hn hp ht hq hqn
    gi_wp2_with fail
    refine drawn_region_in (fun W => (W.cell? ⟨g + 1, 0, none⟩ = some (.pointer (some ⟨g, 0, none⟩)) ∧ W.cell? ⟨g, 0, none⟩ = some (.slice A pre.length c)) ∧ Turn (fun k => (Value.slice A pre.length c).ownBlock = some k) V W) [10] (by kernel_rfl) (by kernel_rfl) ?_
    have HTD : Hid (Turn (fun _ => False) V (World.drew V)) := (Turn.refl _ V).drew
    have hS0 := HSK.out _ (HTD.out.none)
    generalize World.drew V = wd at *
    have HOD := Lib.hid (HO.out.later HTD.out)
    have HDV : Hid (Turn (fun k => (Value.slice A pre.length c).ownBlock = some k) V wd) := HTD.out.none
    refine drawn_take 0 16 (.pointer (some ⟨g, 0, none⟩)) rfl rfl (by kernel_rfl) (by kernel_rfl) (by kernel_rfl) (by kernel_rfl) (fun _ _ _ h => h) (by rfl) (by assumption) (by intro w hSw; obtain ⟨⟨hS1, hS2⟩, hS5⟩ := hSw; go_simp) ?_
    try simp only [List.setIfInBounds_toArray, List.set_cons_zero, List.set_cons_succ]
    refine drawn_take 1 17 (.pointer (some ⟨g, 0, none⟩)) rfl rfl (by kernel_rfl) (by kernel_rfl) (by kernel_rfl) (by kernel_rfl) (fun _ _ _ h => h) (by rfl) (by assumption) (by intro w hSw; obtain ⟨⟨hS1, hS2⟩, hS5⟩ := hSw; go_simp) ?_
    try simp only [List.setIfInBounds_toArray, List.set_cons_zero, List.set_cons_succ]
    refine drawn_take 2 18 (.pointer (some ⟨g, 0, none⟩)) rfl rfl (by kernel_rfl) (by kernel_rfl) (by kernel_rfl) (by kernel_rfl) (fun _ _ _ h => h) (by rfl) (by assumption) (by intro w hSw; obtain ⟨⟨hS1, hS2⟩, hS5⟩ := hSw; go_simp) ?_
    try simp only [List.setIfInBounds_toArray, List.set_cons_zero, List.set_cons_succ]
    refine drawn_take 3 19 (.pointer (some ⟨g, 0, none⟩)) rfl rfl (by kernel_rfl) (by kernel_rfl) (by kernel_rfl) (by kernel_rfl) (fun _ _ _ h => h) (by rfl) (by assumption) (by intro w hSw; obtain ⟨⟨hS1, hS2⟩, hS5⟩ := hSw; go_simp) ?_
    try simp only [List.setIfInBounds_toArray, List.set_cons_zero, List.set_cons_succ]
    refine drawn_take 4 20 (.slice A pre.length c) rfl rfl (by kernel_rfl) (by kernel_rfl) (by kernel_rfl) (by kernel_rfl) (fun _ _ _ h => h) (by rfl) (by assumption) (by intro w hSw; obtain ⟨⟨hS1, hS2⟩, hS5⟩ := hSw; go_simp) ?_
    try simp only [List.setIfInBounds_toArray, List.set_cons_zero, List.set_cons_succ]
    refine drawn_take 5 21 (.agg #[.int .i64 y.k.h, sv9 y.k.a, sv9 y.k.b, sv9 y.k.c, sv9 y.k.d, .int .i64 y.c.n, .int .i64 y.c.s, .int .i64 y.c.lo, .int .i64 y.c.hi]) rfl rfl (by kernel_rfl) (by kernel_rfl) (by kernel_rfl) (by kernel_rfl) (fun _ _ _ h => h) (by rfl) (by assumption) (by intro w hSw; have hb := HQ.out.turn hSw.2 HQN.out; have a0 := hb.cell 0; have a1 := hb.cell 1; have a2 := hb.cell 2; have a3 := hb.cell 3; have a4 := hb.cell 4; have a5 := hb.cell 5; have a6 := hb.cell 6; have a7 := hb.cell 7; have a8 := hb.cell 8; clear hSw hb; go_simp) ?_
    try simp only [List.setIfInBounds_toArray, List.set_cons_zero, List.set_cons_succ]
    refine drawn_any [6] (by kernel_rfl) (by simp) ?_
    refine drawn_cons rfl (fun K hK => ?_) drawn_nil
    go_simp
    have HX := Lib.hid (one_row ER 51 wd y)
    have HT1 : Hid (Turn (fun k => (Value.slice A pre.length c).ownBlock = some k) V (wd.alloc (.cells (ER.enc y).toArray 51))) := HDV.out.alloc _
    have HPX := Lib.hid (HOD.out.later ((Turn.refl _ wd).alloc (.cells (ER.enc y).toArray 51)))
    refine hK.out _ _ _ (HSK.out _ HT1.out) ?_
    clear hK K hS0
    have hS0 := HSK.out _ HT1.out
    try simp only [List.setIfInBounds_toArray, List.set_cons_zero, List.set_cons_succ]
    refine drawn_any [7] (by kernel_rfl) (by simp) ?_
    refine drawn_cons rfl (fun K hK => ?_) drawn_nil
    refine put_app Try.underlying23 row_info11 row_zero11 (by omega) pre HPX.out [y] HX.out (by simp only [List.length_cons, List.length_nil]; omega) ?_
    intro A2 n2 c2 w3 ho ht hn2
    obtain ⟨ad, rfl, rfl⟩ := ho.some_at (by simp)
    have HO3 := Lib.hid ho
    have HT3 := Lib.hid (HT1.out.trans ht (fun _ _ e => e))
    have HN3 : Hid (∀ k, (Value.slice (some ad) (pre ++ [y]).length c2).ownBlock = some k → w2.heap.size ≤ k) := fun k hk => by
      rcases hn2 with e | e
      · exact HN.out k (e.symm.trans hk)
      · have e1 : ad.block = (wd.alloc (.cells (ER.enc y).toArray 51)).heap.size := by simpa [Value.ownBlock] using e
        have hkb : ad.block = k := by simpa [Value.ownBlock] using hk
        have h1 := HT1.out.size
        have h2 := HTV.out.size
        omega
    clear ho ht hn2
    refine hK.out _ _ _ (HSK.out _ HT3.out) ?_
    clear hK K hS0
    have hS0 := HSK.out _ HT3.out
    try simp only [List.setIfInBounds_toArray, List.set_cons_zero, List.set_cons_succ]
    refine drawn_take 8 24 (.pointer (some ⟨g, 0, none⟩)) rfl rfl (by kernel_rfl) (by kernel_rfl) (by kernel_rfl) (by kernel_rfl) (fun _ _ _ h => h) (by rfl) (by assumption) (by intro w hSw; obtain ⟨⟨hS1, hS2⟩, hS5⟩ := hSw; go_simp) ?_
    try simp only [List.setIfInBounds_toArray, List.set_cons_zero, List.set_cons_succ]
    refine drawn_take 9 25 (.pointer (some ⟨g, 0, none⟩)) rfl rfl (by kernel_rfl) (by kernel_rfl) (by kernel_rfl) (by kernel_rfl) (fun _ _ _ h => h) (by rfl) (by assumption) (by intro w hSw; obtain ⟨⟨hS1, hS2⟩, hS5⟩ := hSw; go_simp) ?_
    try simp only [List.setIfInBounds_toArray, List.set_cons_zero, List.set_cons_succ]
    refine drawn_last (z := 10) rfl (by kernel_rfl) (by kernel_rfl) (by kernel_rfl) (fun K hK => ?_)
    clear hS0
    have HBG : Hid (Box w3 g 74 #[.slice A pre.length c]) := HB.out.turn HT3.out (fun e => by have := HN.out _ e; have := HGS.out; omega)
    have hz1 := HBG.out.cell 0
    have hz2 := HBG.out.free 0
    go_simp
    refine hK.out _ _ ?_
    clear hK K hz1 hz2
    refine goes_on ?_
    have hlen2 : (pre ++ [y]).length = pre.length + 1 := by simp
    rw [hlen2] at HO3 HN3
    have hng : ∀ k, (Value.slice (some ad) (pre.length + 1) c2).ownBlock = some k → ¬ k = g := fun k hk e => by have := HN3.out k hk; have := HGS.out; omega
    have hst : Turn (fun k => k = g) w3 (w3.setCell ⟨g, 0, none⟩ (.slice (some ad) (pre.length + 1) c2)) := Turn.setCell (S := fun k => k = g) (p := ⟨g, 0, none⟩) (Turn.refl _ w3) (fun _ => rfl) _
    have hV3 : Turn (fun k => k = g ∨ w2.heap.size ≤ k) V w3 := HT3.out.mono (fun k _ e => .inr (HN.out k e))
    refine ⟨?_, ?_, ?_⟩
    · refine Still.trans ⟨HT3.out.size, fun k o _ hk ho => (HT3.out.block k (Array.getElem?_eq_some_iff.1 hk).1 (fun e => ?_)).trans hk⟩ (Still.setCell _ _ _)
      have := own_cells HO.out e o hk
      rw [this] at ho
      cases ho
    · exact hV3.trans hst (fun k _ e => .inl e)
    · refine ⟨⟨_, HBG.out.set 0 (.slice (some ad) (pre.length + 1) c2), HO3.out.turn hst hng, HN3.out⟩, ?_, ?_⟩
      · exact ((HP.out.turn hV3 (fun e => by have := HGS.out; omega))).turn hst (by omega)
      · exact (HTV.out.trans HT3.out (fun k hk e => by have := HN.out k e; omega)).trans hst (fun _ _ e => e)
  case done =>
    rintro D xs V hD hA ⟨⟨v, hb, ho, hn⟩, hp, ht⟩ hK
    subst hA
    have c0 := hp.cell 0
    have HB := Lib.hid hb; have HO := Lib.hid ho; have HN := Lib.hid hn; have HP := Lib.hid hp; have HTV := Lib.hid ht; have HKD := Lib.hid hK; have HDD := Lib.hid hD
    clear hb ho hn hp ht hK hD
    go_wp2
    have k1 : V.heap[D]? = some (.deferred (some [])) := HKD.out
    have u1 : Turn (fun k => k = D) V (V.putObj D (.deferred none)) := Turn.putObj _ D _ rfl
    have hnc : ∀ i t cs, Box V i t cs → ¬ i = D := fun i t cs hb e => by rw [← e, show V.heap[i]? = _ from hb] at k1; cases k1
    refine ⟨by simp, .inl ⟨_, _, rfl, run_takeDeferred k1, ?_⟩⟩
    refine ⟨.pointer (some ⟨g, 0, none⟩), ?_, ?_⟩
    · simp [results, Try.f24, go_sem]
    · refine ⟨_, rfl, ⟨HG.out, .inr ⟨g, v, rfl, HB.out.turn u1 (hnc _ _ _ HB.out), HO.out.rd.turn u1 (fun b hb e => ?_)⟩⟩, ?_⟩
      · obtain ⟨A, c, rfl⟩ := HO.out.shape
        rcases HO.out.form with ⟨e1, _⟩ | ⟨g', cap, cur, e1, hb', _⟩
        · rw [e1] at hb; simp [Value.ownBlock] at hb
        · rw [e1] at hb
          have : g' = b := by simpa [Value.ownBlock] using hb
          exact hnc _ _ _ hb' (this.trans e)
      · refine ((HT1.out.trans HT2.out (fun _ _ f => f)).trans HTV.out (fun k hk e => by have := HGG.out; omega)).trans u1 (fun k hk e => ?_)
        have h1 := (HT1.out.trans HT2.out (fun _ _ f => f)).size
        have h2 := HDD.out
        omega

end Go.Proofs.Ytnnlgeldjjknmaa
