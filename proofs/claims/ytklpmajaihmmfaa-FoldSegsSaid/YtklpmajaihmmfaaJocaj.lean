/-
  Texts laid one behind the other: Te Ih Ik Ip Q2a Q1g Q2b Q2c.
-/
import Derived.Test.YtklpmajaihmmfaaJocai
import Derived.Laws.EntriesVeiled
import Derived.Test.YtklpmajaihmmfaaJocaa
import Derived.Test.YtklpmajaihmmfaaJocah
import Derived.Test.YtklpmajaihmmfaaJocae
import Derived.Test.YtklpmajaihmmfaaJocaf
import Derived.Lib.MinMax
import Derived.BigQuiet
import Derived.Test.YtklpmajaihmmfaaJocab

/-
  Stage 11: Range: the iterator, and what it feeds.
-/
namespace Go.Proofs.Ytklpmajaihmmfaa
open Go.RowKit Go.Shelf
attribute [local go_sem] Oper.semAt_some wide_fn

theorem yield_depth11 {m m' : Nat} {P : Program} {l : Nat} {args : Array Value} {W : World} {R : Ending → World → Prop} (h : YieldAt Fence.wide m P l args W R) : YieldAt Fence.wide m' P l args W R := by
  obtain ⟨fn, tmps, assign, body, hy, hR⟩ := h
  exact ⟨fn, tmps, assign, body, hy, hR.1, fun c cs _ => hR.2 c cs (room_wide _)⟩
theorem calls_depth11 {m m' : Nat} {P : Program} {f : FuncId} {args : Array Value} {W : World} {R : Ending → World → Prop} (h : CallsIn Fence.wide m P f args W R) : CallsIn Fence.wide m' P f args W R := callsIn_wide.2 (callsIn_wide.1 h)

theorem take_pre {L : List R11} {i : Nat} {x : R11} (h : L[i]? = some x) : L.take i ++ [x] = L.take (i + 1) ∧ L.take i ++ [x] <+: L := by
  obtain ⟨h0, e⟩ := List.getElem?_eq_some_iff.1 h
  have h1 : L.take i ++ [x] = L.take (i + 1) := by rw [List.take_succ_eq_append_getElem h0, e]
  exact ⟨h1, by rw [h1]; exact List.take_prefix _ _⟩

set_option maxRecDepth 100000 in
set_option maxHeartbeats 4000000 in
theorem rows_feed11 (n q : Nat) (u : Value) (L : List R11) (w : World) (hq : Box w q 26 #[u]) (hu : RdE ER w u L) (hl : L.length ≤ 20000) (S : Nat → Prop) (h1 : ¬ S q) (h2 : 0 < L.length → ∀ k, u.ownBlock = some k → ¬ S k) :
    Feeds3 n 45 #[.pointer (some ⟨q, 0, none⟩)] (fun r => #[rv11 r]) S (fun pre y _ => pre ++ [y] <+: L) (fun xs => xs = L) (fun pre => pre <+: L) w := fun l J Jx W hW hlW hJ hJx hY h0 => by
  have HQ := Lib.hid (hq.turn hW (fun f => f))
  have HU := Lib.hid (hu.later hW)
  have HY := Lib.hid hY; have HJ := Lib.hid hJ
  have HSQ := Lib.hid h1; have HSU := Lib.hid h2
  have H0 := Lib.hid h0
  obtain ⟨A, c, rfl⟩ := hu.shape
  have hc0 := HQ.out.cell 0
  clear hY hJ hJx hlW h0 hq hW h1 h2 hu
  refine calls_depth11 (m := 5) ?_
  refine callsIn_of_wp Try.func45 rfl trivial ?_ rfl
  simp only [Try.ntmps45, List.size_toArray, List.length_cons, List.length_nil, Nat.reduceAdd, Nat.reduceSub, Array.replicate_succ, Array.replicate_zero, List.push_toArray, List.append_toArray, List.nil_append, List.cons_append]
  gi_wp2
  gi_loopw [7] (fun x wr => ∃ i : Nat, x = .int .i64 (i : Int) ∧ i ≤ L.length ∧ J (L.take i) wr ∧ Box wr q 26 #[.slice A L.length c] ∧ RdE ER wr (.slice A L.length c) L) (fun x _ => L.length - (intOf x).toNat)
  case atStart => exact ⟨0, rfl, Nat.zero_le _, H0.out, HQ.out, HU.out⟩
  case round =>
    clear H0 HQ HU hc0
    obtain ⟨i, rfl, hi, hj, hqb, hub⟩ := hrel
    have HJ0 := Lib.hid hj; have HQ := Lib.hid hqb; have HU := Lib.hid hub
    clear hj hqb hub
    by_cases hlt : i < L.length
    · obtain ⟨x, hx⟩ : ∃ x, L[i]? = some x := ⟨_, List.getElem?_eq_getElem hlt⟩
      obtain ⟨ad, rfl, hc⟩ := row_at11 HU.out hx
      obtain ⟨a0, a1, a2, a3, a4, a5, a6, a7, a8⟩ := hc wr (Turn.refl _ _)
      have hil : (i : Int) < L.length := by omega
      have ht1 : Turn (fun _ => False) wr (wr.alloc (.cells (cells11 x) 55)) := (Turn.refl _ wr).alloc _
      have HT1 := Lib.hid ht1
      obtain ⟨fn, tm, asg, bo, hy, hrr⟩ := yield_depth11 (m' := 5 - 1) (HY.out (L.take i) x (wr.alloc (.cells (cells11 x) 55)) (HJ.out _ _ _ HJ0.out ht1.none) (take_pre hx).2)
      have HPR := Lib.hid (take_pre hx)
      have HRR := Lib.hid hrr
      clear hc hx ht1 hrr
      gi_wp2_with fail
      refine HRR.out.mono ?_
      intro e w2 hp
      rcases hp with ⟨rfl, hj2, hk2, -⟩ | ⟨rfl, hx2, -⟩
      · have HJ2 := Lib.hid hj2
        have HK2 := Lib.hid hk2
        clear hj2 hk2
        gi_wp2
        go_roundw
        case rel => exact ⟨i + 1, by go_num, hlt, by rw [← HPR.out.1]; exact HJ2.out, (HQ.out.turn HT1.out (fun f => f)).turn HK2.out HSQ.out, (HU.out.later HT1.out).turn HK2.out (HSU.out (by omega))⟩
        case measure => simp [intOf]; omega
      · have HX2 := Lib.hid hx2
        clear hx2
        gi_wp2
        refine bodyPost_ret (results_none rfl _ _ _) rfl ?_
        exact ⟨⟨_, rfl⟩, .inr ⟨L.take i ++ [x], HPR.out.2, HX2.out⟩⟩
    · obtain rfl : i = L.length := by omega
      have HJE : Hid (J L wr) := by have h := HJ0.out; rw [List.take_length] at h; exact h
      gi_wp2
      go_end0
      exact ⟨⟨_, rfl⟩, .inl ⟨L, rfl, HJE.out⟩⟩

set_option maxRecDepth 100000 in
set_option maxHeartbeats 2000000 in
theorem range_any11 (s : Value) (L : List R11) (a b : Int) (w : World) (h : SV11 w s L) : Calls Try.prog 26 #[s, .int .i64 a, .int .i64 b] w fun e w' => Range11 w (rangeR L a b) e w' := by
  have HWI := Lib.hid (within_any11 s L a b w h)
  have hl : (rangeR L a b).length ≤ 20000 := Nat.le_trans (List.length_filter_le _ _) h.right.2.2
  obtain ⟨p, rfl⟩ := h.ptr
  clear h
  generalize rangeR L a b = G at *
  go_enter Try.func26, Try.ntmps26
  go_wp2_with fail
  refine HWI.out.mono ?_
  rintro e w1 ⟨sl, rfl, hr, t1⟩
  obtain ⟨A, c, rfl⟩ := hr.shape
  have HR := Lib.hid hr; have HT := Lib.hid t1
  clear HWI hr t1
  go_wp2
  go_ret
  refine ⟨_, _, rfl, enters_of Try.func45 (by kernel_rfl) rfl, HT.out.alloc _, fun n S hS => ?_⟩
  have hb := Box.new w1 26 #[.slice A G.length c]
  have hsz := HT.out.size
  refine rows_feed11 n w1.heap.size _ G _ hb (HR.out.later ((Turn.refl _ w1).alloc _)) hl S (fun h => ?_) (fun hpos k hk h => ?_)
  · rcases hS _ h with ⟨t, v, hc⟩ | h
    · have := hc.lt; omega
    · rw [World.size_alloc] at h; omega
  · obtain ⟨x, hx⟩ : ∃ x, G[0]? = some x := ⟨_, List.getElem?_eq_getElem hpos⟩
    obtain ⟨ad, hA, hc⟩ := row_at11 HR.out hx
    subst hA
    obtain ⟨a0, a1, -⟩ := hc w1 (Turn.refl _ _)
    have hkb : ad.block = k := by simpa [Value.ownBlock] using hk
    rw [Nat.zero_mul] at a1
    have hlt : ad.block < w1.heap.size := by
      have := World.block_lt_of_cell? w1 _ a1
      rwa [eadd_block] at this
    rcases hS _ h with ⟨t, v, hc⟩ | h
    · have hc1 := hc.turn HT.out (fun f => f)
      rw [← hkb] at hc1
      have e0 : (ad.add 0).block = ad.block := eadd_block ad 0
      have h1 := a1
      rw [e0] at h1
      rw [hc1.cell] at h1
      have : ((#[v] : Array Value)[(ad.add 0).off + 1]?) = none := by simp
      rw [this] at h1
      cases h1
    · rw [World.size_alloc] at h; omega

end Go.Proofs.Ytklpmajaihmmfaa

/-
  A region that draws its order, walked by hand (drawn_region's words), in a round of a range over a function. No type is named here.
-/
namespace Go.Proofs.Ytklpmajaihmmfaa
open Go.RowKit

/-- Nothing but going on is owed. -/
def goesOn (Q : Exit → Act → World → Prop) : Exit → Act → World → Prop
  | .normal, a, w => Q .normal a w
  | _, _, _ => False
theorem goes_on {Q : Exit → Act → World → Prop} {a : Act} {w : World} (h : Q .normal a w) : goesOn Q .normal a w := h

section
variable {P : Program} {l0 n : Nat} {ops : Array Oper} {md : Region.Mode} {Q : Exit → Act → World → Prop}
theorem op_in {o : Oper} {a : Act} {w : World} {K K' : Act → World → Prop} (hd : noDefer o.op = true) (hK : ∀ a w, K a w → K' a w) (h : o.wp P a w K (goesOn Q) ∨ (o.asks P a w ∧ LetsOut (goesOn Q))) :
    o.wpIn (Fence.wide.inRound l0) n P a w K' Q := by
  rcases h with h | ⟨_, a', w', h⟩
  · unfold Oper.wp at h
    unfold Oper.wpIn
    refine ⟨fun f _ => trivial, ?_⟩
    rw [Oper.semAt_eq _ _ _ (noDefer_ne hd)]
    generalize (execOp a.eval o).run P w = r at *
    rcases r with ⟨x, w'⟩ | ⟨x, w'⟩
    · cases x <;> simp only [Oper.upon] at h <;> simp only [Oper.uponIn]
      case value => exact hK _ _ h
      case skip => exact hK _ _ h
      case defer => exact hK _ _ h
      case enter f args =>
        refine ⟨fun h0 => (by cases h0), CallsIn.inRound l0 (callsIn_wide.2 (h.mono fun e w'' he => ?_))⟩
        cases e with
        | returned v => exact hK _ _ he
        | panicked c => exact he.elim
        | outgrown =>
          obtain ⟨a', w', h⟩ := he
          exact h.elim
      case row row args =>
        refine ⟨fun h0 => (by cases h0), fun c cs _ => ?_⟩
        obtain ⟨v, w'', hv, hs⟩ := h c cs
        exact ⟨v, w'', hK _ _ hv, stepsIn_wide.2 hs⟩
    · cases x <;> simp only [Oper.upon] at h
      exact h.elim
  · exact h.elim
theorem any_in (hnd : ∀ o ∈ ops.toList, noDefer o.op = true) : ∀ (fuel : Nat) (listed : Array Bool) (a : Act) (w : World), wpAny P md ops (goesOn Q) fuel listed a w → wpAnyIn (Fence.wide.inRound l0) n P md ops Q fuel listed a w
  | 0, _, _, _, h => ⟨h.1, h.2⟩
  | fuel + 1, listed, a, w, h => ⟨fun h0 => h.1 h0, fun i hi => by
    have h1 := h.2 i hi
    unfold wpOp at h1
    unfold wpOpIn
    cases ho : ops[i]? with
    | none =>
      simp only [ho] at h1
      exact any_in hnd fuel _ a w h1
    | some o =>
      simp only [ho] at h1
      have hm : noDefer o.op = true := hnd o (Array.mem_toList_iff.2 (Array.mem_of_getElem? ho))
      by_cases hw : Region.wanted o (yielded ops a.tmps)
      · simp only [hw, if_true] at h1 ⊢
        exact op_in hm (fun a' w' => any_in hnd fuel _ a' w') h1
      · simp only [hw] at h1 ⊢
        exact ⟨fun f _ => trivial, any_in hnd fuel _ _ _ h1⟩⟩
theorem drawn_region_in (S : World → Prop) (zs : List Nat) {id : Nat} {ts : Array Value} {ds : List Deferred} {w : World} (hnd : (ops.toList.all fun o => noDefer o.op) = true) (hm : P.follows .mixedOrders = true)
    (h : Drawn P ops (goesOn Q) S zs ops.size (Array.replicate ops.size false) ts ds w.drew) : (Code.region id ops true).wpIn (Fence.wide.inRound l0) n P Q { tmps := ts, defers := ds } w :=
  wpIn_region_any hm (any_in (fun o ho => by rw [List.all_eq_true] at hnd; exact hnd o ho) _ _ _ _ (wpAny_ofG _ _ _ _ (h Shutd.start)))
end

end Go.Proofs.Ytklpmajaihmmfaa

/-
  A region that draws its order and hands a thing to a round (yield): what comes ahead of the hand-over is walked in drawn_region's words, as a region of its own; the hand-over, and what waits for it, behind. No type is named here.
-/
namespace Go.Proofs.Ytklpmajaihmmfaa
open Go.RowKit

/-- An operation that holds unfenced holds in the fence. -/
def OpIn (F : Fence) (n : Nat) (P : Program) (Q Q1 : Exit → Act → World → Prop) : Prop := ∀ (o : Oper) (a : Act) (w : World) (K : Act → World → Prop), noDefer o.op = true → o.wp P a w K (goesOn Q1) → o.wpIn F n P a w K Q
theorem op_round {P : Program} {l0 n : Nat} {Q Q1 : Exit → Act → World → Prop} : OpIn (Fence.wide.inRound l0) n P Q Q1 := by
  intro o a w K hd h
  unfold Oper.wp at h
  unfold Oper.wpIn
  refine ⟨fun f _ => trivial, ?_⟩
  rw [Oper.semAt_eq _ _ _ (noDefer_ne hd)]
  generalize (execOp a.eval o).run P w = r at *
  rcases r with ⟨x, w'⟩ | ⟨x, w'⟩
  · cases x <;> simp only [Oper.upon] at h <;> simp only [Oper.uponIn]
    case value => exact h
    case skip => exact h
    case defer => exact h
    case enter f args =>
      refine ⟨fun h0 => (by cases h0), CallsIn.inRound l0 (callsIn_wide.2 (h.mono fun e w'' he => ?_))⟩
      cases e with
      | returned v => exact he
      | panicked c => exact he.elim
      | outgrown =>
        obtain ⟨a', w', h⟩ := he
        exact h.elim
    case row row args =>
      refine ⟨fun h0 => (by cases h0), fun c cs _ => ?_⟩
      obtain ⟨v, w'', hv, hs⟩ := h c cs
      exact ⟨v, w'', hv, stepsIn_wide.2 hs⟩
  · cases x <;> simp only [Oper.upon] at h
    exact h.elim
theorem op_wide {P : Program} {n : Nat} {Q Q1 : Exit → Act → World → Prop} : OpIn Fence.wide n P Q Q1 := by
  intro o a w K hd h
  unfold Oper.wp at h
  unfold Oper.wpIn
  refine ⟨fun f _ => trivial, ?_⟩
  rw [Oper.semAt_eq _ _ _ (noDefer_ne hd)]
  generalize (execOp a.eval o).run P w = r at *
  rcases r with ⟨x, w'⟩ | ⟨x, w'⟩
  · cases x <;> simp only [Oper.upon] at h <;> simp only [Oper.uponIn]
    case value => exact h
    case skip => exact h
    case defer => exact h
    case enter f args =>
      refine ⟨fun h0 => (by cases h0), callsIn_wide.2 (h.mono fun e w'' he => ?_)⟩
      cases e with
      | returned v => exact he
      | panicked c => exact he.elim
      | outgrown =>
        obtain ⟨a', w', h⟩ := he
        exact h.elim
    case row row args =>
      refine ⟨fun h0 => (by cases h0), fun c cs _ => ?_⟩
      obtain ⟨v, w'', hv, hs⟩ := h c cs
      exact ⟨v, w'', hv, stepsIn_wide.2 hs⟩
  · cases x <;> simp only [Oper.upon] at h
    exact h.elim

/-- Operation y waits for all ahead of it, and all behind it wait for y; none is guarded, none defers, each waits for earlier ones alone. -/
def cutB (l : List Oper) (y : Nat) : Bool :=
  (l.all fun o => o.guard.isNone && noDefer o.op) && (l.zipIdx.all fun p => p.1.after.all fun e => decide (e.on < p.2)) && ((List.range y).all fun i => waitsB .any l.toArray l.length y i) &&
    ((List.range l.length).all fun k => decide (k ≤ y) || waitsB .any l.toArray l.length k y)

section
variable {F : Fence} {n : Nat} {P : Program} {Q Q1 : Exit → Act → World → Prop} {l : List Oper} {y : Nat}

theorem first_not {p : Nat → Bool} : ∀ {m : Nat}, (∃ i, i < m ∧ p i = false) → ∃ i, i < m ∧ p i = false ∧ ∀ j, j < i → p j = true
  | 0, ⟨i, h, _⟩ => absurd h (Nat.not_lt_zero i)
  | m + 1, ⟨i, h, hi⟩ => by
    by_cases h2 : ∃ j, j < m ∧ p j = false
    · obtain ⟨k, k1, k2, k3⟩ := first_not h2
      exact ⟨k, Nat.lt_succ_of_lt k1, k2, k3⟩
    · refine ⟨i, h, hi, fun j hj => ?_⟩
      cases hp : p j with
      | true => rfl
      | false => exact absurd ⟨j, by omega, hp⟩ h2

theorem cut_any (hop : OpIn F n P Q Q1) (hc : cutB l y = true) (hy : y < l.length)
    (hQ1 : ∀ a w, Q1 .normal a w → ∀ k, wpAnyIn F n P .any l.toArray Q (k + (l.length - y)) (List.replicate y true ++ List.replicate (l.length - y) false).toArray a w) :
    ∀ (fuel : Nat) (listed : Array Bool) (a : Act) (w : World), listed.size = l.length → (∀ i, y ≤ i → listed.getD i false = false) → Shutd .any l.toArray listed →
      wpAny P .any (l.take y).toArray (goesOn Q1) fuel (listed.toList.take y).toArray a w → wpAnyIn F n P .any l.toArray Q (fuel + (l.length - y)) listed a w := by
  simp only [cutB, Bool.and_eq_true] at hc
  obtain ⟨⟨⟨hc1, hc2⟩, hc3⟩, hc4⟩ := hc
  have hat : ∀ i, i < y → ((l.take y).toArray)[i]? = l.toArray[i]? := fun i hi => by simp [hi]
  have hlow : ∀ {i : Nat} {o : Oper}, l.toArray[i]? = some o → ∀ e ∈ o.after, e.on < i := fun {i o} ho e he => by
    have hm : (o, i) ∈ l.zipIdx := by rw [List.mk_mem_zipIdx_iff_getElem?]; simpa using ho
    have h1 := List.all_eq_true.1 hc2 _ hm
    exact of_decide_eq_true (Array.all_eq_true_iff_forall_mem.1 h1 e he)
  have hl1 : ∀ (listed : Array Bool) (b : Bool) (i : Nat), i < y → ((listed.toList.take y).toArray).getD i b = listed.getD i b := fun listed b i hi => by
    simp [hi]
  intro fuel
  induction fuel with
  | zero =>
    intro listed a w hsz hup hsh h
    by_cases hall : ∀ i, i < y → listed.getD i false = true
    · have he : listed = (List.replicate y true ++ List.replicate (l.length - y) false).toArray := by
        apply Array.ext_getElem?
        intro i
        by_cases h1 : i < y
        · have := hall i h1
          have hlt : i < listed.size := by omega
          simp [hlt] at this
          simp [hlt, this, h1, List.getElem?_append_left]
        · by_cases h2 : i < l.length
          · have := hup i (by omega)
            have hlt : i < listed.size := by omega
            simp [hlt] at this
            rw [Array.getElem?_eq_getElem hlt, this]
            simp [List.getElem?_append_right, Nat.not_lt.1 h1, show i - y < l.length - y by omega]
          · rw [Array.getElem?_eq_none (by omega)]
            symm
            apply Array.getElem?_eq_none
            simp; omega
      have hq : Q1 .normal a w := h.2
      rw [he]
      exact hQ1 a w hq 0
    · exfalso
      obtain ⟨i, h1, h2, h3⟩ := first_not (p := fun i => listed.getD i false) (m := y) (by
        by_cases hex : ∃ i, i < y ∧ listed.getD i false = false
        · exact hex
        · exact absurd (fun i hi => by
            cases hb : listed.getD i false with
            | true => rfl
            | false => exact absurd ⟨i, hi, hb⟩ hex) hall)
      have hm : i ∈ Region.ready .any (l.take y).toArray (listed.toList.take y).toArray := by
        refine mem_ready.2 ⟨?_, l[i]'(by omega), ?_, fun e he _ => ?_⟩
        · rw [hl1 _ _ _ h1]
          have hlt : i < listed.size := by omega
          simp [hlt] at h2 ⊢
          exact h2
        · rw [hat i h1]; simp [show i < l.length by omega]
        · have h4 := hlow (i := i) (o := l[i]'(by omega)) (by simp [show i < l.length by omega]) e he
          rw [hl1 _ _ _ (by omega)]
          exact h3 _ h4
      rw [h.1] at hm
      cases hm
  | succ fuel ih =>
    intro listed a w hsz hup hsh h
    by_cases hall : ∀ i, i < y → listed.getD i false = true
    · have he : listed = (List.replicate y true ++ List.replicate (l.length - y) false).toArray := by
        apply Array.ext_getElem?
        intro i
        by_cases h1 : i < y
        · have := hall i h1
          have hlt : i < listed.size := by omega
          simp [hlt] at this
          simp [hlt, this, h1, List.getElem?_append_left]
        · by_cases h2 : i < l.length
          · have := hup i (by omega)
            have hlt : i < listed.size := by omega
            simp [hlt] at this
            rw [Array.getElem?_eq_getElem hlt, this]
            simp [List.getElem?_append_right, Nat.not_lt.1 h1, show i - y < l.length - y by omega]
          · rw [Array.getElem?_eq_none (by omega)]
            symm
            apply Array.getElem?_eq_none
            simp; omega
      have h0 : Region.ready .any (l.take y).toArray (listed.toList.take y).toArray = [] := by
        refine List.eq_nil_iff_forall_not_mem.2 fun i hi => ?_
        obtain ⟨h1, o, ho, _⟩ := mem_ready.1 hi
        have hlt : i < y := by
          have := (Array.getElem?_eq_some_iff.1 ho).1
          simp at this
          omega
        rw [hl1 _ _ _ hlt] at h1
        have h2 := hall i hlt
        have hls : i < listed.size := by omega
        simp [hls] at h1 h2
        rw [h1] at h2
        cases h2
      have hq : Q1 .normal a w := h.1 h0
      rw [he]
      exact hQ1 a w hq (fuel + 1)
    · obtain ⟨i0, h1, h2, h3⟩ := first_not (p := fun i => listed.getD i false) (m := y) (by
        by_cases hex : ∃ i, i < y ∧ listed.getD i false = false
        · exact hex
        · exact absurd (fun i hi => by
            cases hb : listed.getD i false with
            | true => rfl
            | false => exact absurd ⟨i, hi, hb⟩ hex) hall)
      have hm : i0 ∈ Region.ready .any l.toArray listed := by
        refine mem_ready.2 ⟨?_, l[i0]'(by omega), ?_, fun e he _ => ?_⟩
        · have hlt : i0 < listed.size := by omega
          simp [hlt] at h2 ⊢
          exact h2
        · simp [show i0 < l.length by omega]
        · exact h3 _ (hlow (i := i0) (o := l[i0]'(by omega)) (by simp [show i0 < l.length by omega]) e he)
      rw [show fuel + 1 + (l.length - y) = (fuel + (l.length - y)) + 1 by omega]
      refine ⟨fun h0 => (by rw [h0] at hm; cases hm), fun i hi => ?_⟩
      obtain ⟨g1, o, ho, g2⟩ := mem_ready.1 hi
      have hil : i < l.length := by have := (Array.getElem?_eq_some_iff.1 ho).1; simpa using this
      have hiy : i < y := by
        rcases Nat.lt_or_ge i y with h' | h'
        · exact h'
        · exfalso
          rcases Nat.eq_or_lt_of_le h' with e | e
          · subst e
            have hw := List.all_eq_true.1 hc3 i0 (List.mem_range.2 h1)
            have := waits_listed hsh _ _ _ hw ⟨o, ho, g2⟩
            rw [h2] at this
            cases this
          · have hw := List.all_eq_true.1 hc4 i (List.mem_range.2 hil)
            rw [decide_eq_false (by omega), Bool.false_or] at hw
            have := waits_listed hsh _ _ _ hw ⟨o, ho, g2⟩
            rw [hup y (Nat.le_refl _)] at this
            cases this
      have hmp : i ∈ Region.ready .any (l.take y).toArray (listed.toList.take y).toArray := by
        refine mem_ready.2 ⟨by rw [hl1 _ _ _ hiy]; exact g1, o, by rw [hat i hiy]; exact ho, fun e he hb => ?_⟩
        rw [hl1 _ _ _ (by have := hlow ho e he; omega)]
        exact g2 e he hb
      have hk := h.2 i hmp
      have hom : o ∈ l := by
        have : l[i]? = some o := by simpa using ho
        exact List.mem_of_getElem? this
      have hgd := List.all_eq_true.1 hc1 o hom
      rw [Bool.and_eq_true, Option.isNone_iff_eq_none] at hgd
      unfold wpOp at hk
      unfold wpOpIn
      rw [hat i hiy] at hk
      simp only [ho] at hk ⊢
      have hwn : ∀ ys, Region.wanted o ys = true := fun ys => by simp [Region.wanted, hgd.1]
      rw [hwn, if_pos rfl] at hk ⊢
      replace hk := hk.resolve_right fun ⟨_, _, _, h⟩ => h.elim
      refine Oper.wpIn_mono (fun a' w' h' => ih (listed.setIfInBounds i true) a' w' (by simpa using hsz) (fun j hj => by rw [getD_set_ne false (by omega)]; exact hup j hj) (hsh.step hi) ?_) (hop o a w _ hgd.2 hk)
      have e : ((listed.setIfInBounds i true).toList.take y).toArray = ((listed.toList.take y).toArray).setIfInBounds i true := by
        rw [Array.toList_setIfInBounds, List.take_set, List.setIfInBounds_toArray]
      rw [e]
      exact h'

/-- The region cut ahead of operation y, with d operations from there on. -/
theorem cut_region (y d : Nat) (S : World → Prop) (zs : List Nat) {id : Nat} {ts : Array Value} {ds : List Deferred} {w : World} (hop : ∀ {Q1}, OpIn F n P Q Q1) (hm : P.follows .mixedOrders = true) (hl : l.length = y + (d + 1)) (hc : cutB l y = true)
    (h : Drawn P (l.take y).toArray (goesOn fun _ a w => ∀ k, wpAnyIn F n P .any l.toArray Q (k + d + 1) (List.replicate y true ++ List.replicate (d + 1) false).toArray a w) S zs y (Array.replicate y false) ts ds w.drew) :
    (Code.region id l.toArray true).wpIn F n P Q { tmps := ts, defers := ds } w := by
  have hd : l.length - y = d + 1 := by omega
  refine wpIn_region_any hm ?_
  have h1 := cut_any (y := y) (Q := Q) (Q1 := fun _ a w => ∀ k, wpAnyIn F n P .any l.toArray Q (k + d + 1) (List.replicate y true ++ List.replicate (d + 1) false).toArray a w) hop hc (by omega) (fun a w hq k => by rw [hd]; exact hq k) y (Array.replicate l.toArray.size false) { tmps := ts, defers := ds } w.drew (by simp) (fun i _ => by simp only [Array.getD_eq_getD_getElem?, Array.getElem?_replicate]; split <;> rfl) Shutd.start
  rw [hd] at h1
  have e1 : l.toArray.size = y + (d + 1) := by simpa using hl
  have e2 : ((Array.replicate l.toArray.size false).toList.take y).toArray = Array.replicate y false := by
    rw [Array.toList_replicate, List.take_replicate, e1, Nat.min_eq_left (by omega), List.toArray_replicate]
  rw [e2] at h1
  rw [e1] at h1 ⊢
  refine h1 (wpAny_ofG _ _ _ _ (h ?_))
  intro k o ho hk
  simp [Array.getElem?_replicate] at hk
  split at hk <;> simp_all
end

end Go.Proofs.Ytklpmajaihmmfaa

/-
  A range over a function, its loop variable boxed, what a round may turn bounded: so that an iterator may range over another one and keep boxes of its own (over6, over7: over4, over5 for Feeds). No type is named.
-/
namespace Go.Proofs.Ytklpmajaihmmfaa
open Go.RowKit

/-- over4 for Feeds. -/
theorem over6 {α : Type} {n : Nat} {g : Operand} {ps : Array Tmp} {assign body : Code} {Q : Exit → Act → World → Prop} {a : Act} {w w0 : World} (h1 : 1 ≤ n)
    {gf : Nat} {lb : Array Value} (hg : a.eval g = .func (.func gf) #[] lb) (eg : ∀ args w, (callFunc gf args).run Try.prog w = .ok (.enter gf args) w)
    {encs : α → Array Value} {S : Nat → Prop} {Gv : List α → α → World → Prop} {All Part : List α → Prop} (hseq : Feeds (n - 1) gf lb encs S Gv All Part w0) (hb0 : Turn (fun _ => False) w0 w)
    (hS : S (w.heap.size + 1)) (hS2 : ∀ k, S k → k < w.heap.size + 2) (hps : ∀ x, (encs x).size = ps.size)
    (I : List α → World → Prop) (Ix : Code → List α → World → Prop) (hI : Holds w.heap.size I) (hIx : ∀ c, Holds w.heap.size (Ix c)) (h0 : I [] w) (I2 : List α → α → Act → World → Prop) (hI2 : ∀ pre x a' A B, I2 pre x a' A → Turn (odd w.heap.size A) A B → I2 pre x a' B)
    (hassign : ∀ (l : Nat) (pre : List α) (x : α) (W : World) (K : Act → World → Prop), I pre W → Gv pre x W → (∀ a' W', I2 pre x a' W' → Turn (fun _ => False) W W' → K a' W') →
      assign.wpIn (Fence.wide.inRound l) (n - 1 - 1) Try.prog (Exit.then K (fun _ _ _ => False)) { tmps := (ps.zip (encs x)).foldl (fun t (p, v) => t.setIfInBounds p v) a.tmps, defers := [] } W)
    (hbody : ∀ (l : Nat) (pre : List α) (x : α) (a' : Act) (W : World), I2 pre x a' W → body.wpIn (Fence.wide.inRound l) (n - 1 - 1) Try.prog (postF w.heap.size S I Ix (pre ++ [x]) W) a' W)
    (hdone : ∀ (D : Nat) (xs : List α) (W : World), w.heap.size ≤ D → All xs → I xs W → W.heap[D]? = some (.deferred (some [])) → Q .normal { a with defers := { target := .collected D, args := #[] } :: a.defers } W)
    (hstop : ∀ (D : Nat) (c : Code) (pre : List α) (W : World), w.heap.size ≤ D → Part pre → Ix c pre W → W.heap[D]? = some (.deferred (some [])) → c.wpIn Fence.wide n Try.prog Q { a with defers := { target := .collected D, args := #[] } :: a.defers } W) :
    (Code.rangeFunc g ps assign body).wpIn Fence.wide n Try.prog Q a w := by
  refine wpIn_rangeFunc fun fn hfn => ?_
  obtain ⟨R, hR⟩ : ∃ R : LoopState → Option Code → Obj, R = fun st pe => .loop { state := st, pending := pe, fn, tmps := a.tmps, params := ps, assign, body, defers := w.heap.size } := ⟨_, rfl⟩
  -- the two blocks of the statement: the rounds' deferred calls, and its record, in a state
  obtain ⟨Bk, hBk⟩ : ∃ Bk : LoopState → Option Code → World → Prop, Bk = fun st pe W => W.heap[w.heap.size + 1]? = some (R st pe) ∧ W.heap[w.heap.size]? = some (.deferred (some [])) := ⟨_, rfl⟩
  obtain ⟨W1, hW1⟩ : ∃ W1, (w.alloc (.deferred (some []))).alloc (R .ready none) = W1 := ⟨_, rfl⟩
  have hsz : W1.heap.size = w.heap.size + 2 := by rw [← hW1]; simp
  have t1 : Turn (fun _ => False) w W1 := by rw [← hW1]; exact ((Turn.refl _ w).alloc _).alloc _
  have k1 : Bk .ready none W1 := by
    rw [hBk]
    refine ⟨?_, ?_⟩
    · have := World.alloc_heap_new (w.alloc (.deferred (some []))) (R .ready none)
      rw [World.size_alloc] at this
      rw [← hW1]
      exact this
    · rw [← hW1]
      exact (Below.heap_alloc _ _ _ (by simp)).trans (World.alloc_heap_new w _)
  have move : ∀ {D : Nat} {st : LoopState} {pe : Option Code} {A B : World}, w.heap.size + 2 ≤ D → Turn (odd D A) A B → Bk st pe A → Bk st pe B := by
    intro D st pe A B hD ht hk
    rw [hBk] at hk ⊢
    have far : ∀ k, k < w.heap.size + 2 → k < A.heap.size → B.heap[k]? = A.heap[k]? := fun k hk1 hk2 => ht.block k hk2 (fun s => by have := s.1; omega)
    exact ⟨(far _ (by omega) (Array.getElem?_eq_some_iff.1 hk.1).1).trans hk.1, (far _ (by omega) (Array.getElem?_eq_some_iff.1 hk.2).1).trans hk.2⟩
  have put : ∀ {st st' : LoopState} {pe pe' : Option Code} {A : World}, Bk st pe A → Bk st' pe' (A.putObj (w.heap.size + 1) (R st' pe')) ∧ Turn (odd w.heap.size A) A (A.putObj (w.heap.size + 1) (R st' pe')) ∧ Turn S A (A.putObj (w.heap.size + 1) (R st' pe')) := by
    intro st st' pe pe' A hk
    rw [hBk] at hk ⊢
    refine ⟨⟨World.putObj_heap_same (Array.getElem?_eq_some_iff.1 hk.1).1, (World.putObj_heap_other (by omega)).trans hk.2⟩, Turn.putObj _ _ _ ⟨by omega, _, hk.1, ?_⟩, Turn.putObj _ _ _ hS⟩
    rw [hR]
    rfl
  have keep : ∀ {st : LoopState} {pe : Option Code} {A B : World}, Still w.heap.size A B → Bk st pe A → Bk st pe B := by
    intro st pe A B h hk
    rw [hBk] at hk ⊢
    exact ⟨h.same _ _ (Nat.le_succ _) hk.1 (by rw [hR]; rfl), h.same _ _ (Nat.le_refl _) hk.2 rfl⟩
  refine ⟨w.heap.size + 1, [{ target := .collected w.heap.size, args := #[] }], W1, { target := .fn (.func gf) lb, args := #[.func (.yield (w.heap.size + 1)) #[] #[]] }, W1, gf,
    #[.func (.yield (w.heap.size + 1)) #[] #[]] ++ lb, W1, ?_, ?_, ?_, ?_, fun _ => h1, ?_⟩
  · rw [← hW1, hR]
    exact run_enterLoop_outer _ _ _ _ _
  · simp only [resolve, hg]
    simp [go_sem]
  · intro f' _
    trivial
  · simp [invoke, go_sem, eg]
  · refine (hseq (w.heap.size + 1) (fun pre W => I pre W ∧ Bk .ready none W) (fun pre W => ∃ c, Ix c pre W ∧ Bk .done (some c) W) W1 (hb0.trans t1 (fun _ _ f => f)) (by omega) (fun k hk => by have := hS2 k hk; omega)
      (fun s A B hs ht => ⟨(hI.le (by omega)) s A B hs.1 ht, move (by omega) ht hs.2⟩)
      (fun s A B hs ht => by
        obtain ⟨c, hc, hk⟩ := hs
        exact ⟨c, ((hIx c).le (by omega)) s A B hc ht, move (by omega) ht hk⟩)
      ?_ ⟨hI _ _ _ h0 t1.none, k1⟩).mono ?_
    · rintro pre x W ⟨hi, hk⟩ hgv
      have hl : W.heap[w.heap.size + 1]? = some (R .ready none) := by rw [hBk] at hk; exact hk.1
      rw [hR] at hl
      have hy := run_yield (P := Try.prog) (args := encs x) hl (hps x)
      refine ⟨fn, _, assign, body, hy, roundIn_of_wpIn hfn (hassign _ pre x W _ hi hgv fun a5 W5 hx5 ht5 => ?_)⟩
      have hk5 : Bk .ready none W5 := by
        rw [hBk] at hk ⊢
        exact ⟨(ht5.block _ (Array.getElem?_eq_some_iff.1 hk.1).1 (fun f => f)).trans hk.1, (ht5.block _ (Array.getElem?_eq_some_iff.1 hk.2).1 (fun f => f)).trans hk.2⟩
      have hl5 : W5.heap[w.heap.size + 1]? = some (R .ready none) := by rw [hBk] at hk5; exact hk5.1
      rw [hR] at hl5
      refine ⟨_, run_beginRound hl5 rfl, ?_⟩
      have hp := put (st' := .busy) (pe' := none) hk5
      rw [hR] at hp
      refine wpIn_mono (hbody _ pre x a5 _ (hI2 _ _ _ _ _ hx5 hp.2.1)) ?_
      have ends : ∀ (jump : Option Code) (W3 : World), Still w.heap.size (W5.putObj (w.heap.size + 1) (.loop { state := .busy, pending := none, fn, tmps := a.tmps, params := ps, assign, body, defers := w.heap.size })) W3 →
          ∃ W4, (Instr.endRound (w.heap.size + 1) jump).run Try.prog W3 = .ok (.bool jump.isNone) W4 ∧ Bk (if jump.isNone then .ready else .done) jump W4 ∧ Turn (odd w.heap.size W3) W3 W4 ∧ Turn S W3 W4 ∧ Still (w.heap.size + 1 + 1) W W4 := by
        intro jump W3 hk3
        have h3 := keep hk3 hp.1
        have hl3 : W3.heap[w.heap.size + 1]? = some (R .busy none) := by rw [hBk] at h3; exact h3.1
        have h4 := put (st' := if jump.isNone then .ready else .done) (pe' := jump) h3
        rw [hR] at hl3 h4
        exact ⟨_, run_endRound jump hl3, h4.1, h4.2.1, h4.2.2, (((Still.turned ht5).trans (Still.put W5 _ _ (Nat.lt_succ_self _))).trans (hk3.le (by omega))).trans (Still.put W3 _ _ (Nat.lt_succ_self _))⟩
      rintro e a3 W3 hpost
      cases e with
      | normal =>
        obtain ⟨hk3, ht3, hi3⟩ := hpost
        obtain ⟨W4, hr, hb4, ht4, hu4, hs4⟩ := ends none W3 hk3
        exact ⟨_, _, hr, .inl ⟨rfl, ⟨hI _ _ _ hi3 ht4, hb4⟩, ((ht5.none.trans hp.2.2 (fun _ _ s => s)).trans ht3 (fun _ _ s => s)).trans hu4 (fun _ _ s => s), hs4⟩⟩
      | ret =>
        obtain ⟨hk3, hi3⟩ := hpost
        obtain ⟨W4, hr, hb4, ht4, hu4, hs4⟩ := ends (some .ret) W3 hk3
        exact ⟨_, _, hr, .inr ⟨rfl, ⟨.ret, hIx _ _ _ _ hi3 ht4, hb4⟩, hs4⟩⟩
      | exit id =>
        obtain ⟨hk3, hi3⟩ := hpost
        obtain ⟨W4, hr, hb4, ht4, hu4, hs4⟩ := ends (some (.exit id)) W3 hk3
        exact ⟨_, _, hr, .inr ⟨rfl, ⟨.exit id, hIx _ _ _ _ hi3 ht4, hb4⟩, hs4⟩⟩
      | goto t =>
        obtain ⟨hk3, hi3⟩ := hpost
        obtain ⟨W4, hr, hb4, ht4, hu4, hs4⟩ := ends (some (.goto t)) W3 hk3
        exact ⟨_, _, hr, .inr ⟨rfl, ⟨.goto t, hIx _ _ _ _ hi3 ht4, hb4⟩, hs4⟩⟩
      | panic ch => exact hpost.elim
      | outgrown => exact hpost.elim
    · have shut : ∀ {st : LoopState} {pe : Option Code} {W2 : World}, st ≠ .busy → Bk st pe W2 → ∃ W3, (Instr.endLoop (w.heap.size + 1)).run Try.prog W2 = .ok pe W3 ∧ W3.heap[w.heap.size]? = some (.deferred (some [])) ∧ Turn (odd w.heap.size W2) W2 W3 := by
        intro st pe W2 hst hk
        have hl : W2.heap[w.heap.size + 1]? = some (R st pe) := by rw [hBk] at hk; exact hk.1
        have h4 := put (st' := .exhausted) (pe' := pe) hk
        have h5 : (W2.putObj (w.heap.size + 1) (R .exhausted pe)).heap[w.heap.size]? = some (.deferred (some [])) := by have h6 := h4.1; rw [hBk] at h6; exact h6.2
        rw [hR] at hl h4 h5
        exact ⟨_, run_endLoop hl hst, h5, h4.2.1⟩
      rintro e W2 ⟨⟨v, rfl⟩, (⟨xs, hA, hi, hk⟩ | ⟨pre, hP, c, hi, hk⟩)⟩
      · obtain ⟨W3, hr, hd, ht⟩ := shut (by simp) hk
        exact ⟨none, W3, hr, hdone _ xs _ (Nat.le_refl _) hA (hI _ _ _ hi ht) hd⟩
      · obtain ⟨W3, hr, hd, ht⟩ := shut (by simp) hk
        exact ⟨some c, W3, hr, hstop _ c pre _ (Nat.le_refl _) hP (hIx c _ _ _ hi ht) hd⟩
/-- over5 for Feeds. -/
theorem over7 {α : Type} {n : Nat} {g : Operand} {ps : Array Tmp} {assign body : Code} {Q : Exit → Act → World → Prop} {a : Act} {w w0 : World} (h1 : 1 ≤ n)
    {gf : Nat} {lb : Array Value} (hg : a.eval g = .func (.func gf) #[] lb) (eg : ∀ args w, (callFunc gf args).run Try.prog w = .ok (.enter gf args) w)
    {encs : α → Array Value} {S : Nat → Prop} {Gv : List α → α → World → Prop} {All Part : List α → Prop} (hseq : Feeds (n - 1) gf lb encs S Gv All Part w0) (hb0 : Turn (fun _ => False) w0 w)
    (hS : S (w.heap.size + 1)) (hS2 : ∀ k, S k → k < w.heap.size + 2) (hps : ∀ x, (encs x).size = ps.size) (A : α → Nat → Act)
    (I : List α → World → Prop) (Ix : Code → List α → World → Prop) (hI : Holds w.heap.size I) (hIx : ∀ c, Holds w.heap.size (Ix c)) (h0 : I [] w) (I2 : List α → α → Nat → World → Prop) (hI2 : ∀ pre x q A B, I2 pre x q A → Turn (odd w.heap.size A) A B → I2 pre x q B)
    (hassign : ∀ (l : Nat) (pre : List α) (x : α) (W : World) (K : Act → World → Prop), I pre W → Gv pre x W → (∀ q W', I2 pre x q W' → Turn (fun _ => False) W W' → K (A x q) W') →
      assign.wpIn (Fence.wide.inRound l) (n - 1 - 1) Try.prog (Exit.then K (fun _ _ _ => False)) { tmps := (ps.zip (encs x)).foldl (fun t (p, v) => t.setIfInBounds p v) a.tmps, defers := [] } W)
    (hbody : ∀ (l : Nat) (pre : List α) (x : α) (q : Nat) (W : World), I2 pre x q W → body.wpIn (Fence.wide.inRound l) (n - 1 - 1) Try.prog (postF w.heap.size S I Ix (pre ++ [x]) W) (A x q) W)
    (hdone : ∀ (D : Nat) (xs : List α) (W : World), w.heap.size ≤ D → All xs → I xs W → W.heap[D]? = some (.deferred (some [])) → Q .normal { a with defers := { target := .collected D, args := #[] } :: a.defers } W)
    (hstop : ∀ (D : Nat) (c : Code) (pre : List α) (W : World), w.heap.size ≤ D → Part pre → Ix c pre W → W.heap[D]? = some (.deferred (some [])) → c.wpIn Fence.wide n Try.prog Q { a with defers := { target := .collected D, args := #[] } :: a.defers } W) :
    (Code.rangeFunc g ps assign body).wpIn Fence.wide n Try.prog Q a w :=
  over6 h1 hg eg hseq hb0 hS hS2 hps I Ix hI hIx h0 (fun pre x a' W => ∃ q, a' = A x q ∧ I2 pre x q W) (fun pre x a' B C ⟨q, h, k⟩ ht => ⟨q, h, hI2 pre x q B C k ht⟩)
    (fun l pre x W K hi hgv hK => hassign l pre x W K hi hgv fun q W' h ht => hK _ _ ⟨q, rfl, h⟩ ht)
    (fun l pre x a' W ⟨q, h, k⟩ => by subst h; exact hbody l pre x q W k) hdone hstop

end Go.Proofs.Ytklpmajaihmmfaa

/-
  Stage 14, plain: groups of rows and of facts; facts in parts; a segment's groups are its facts'.
-/
namespace Go.Proofs.Ytklpmajaihmmfaa
open Go.RowKit

/-- The rows that match, each at its group's key; likewise facts. -/
def grpR (q : Q13) (l : List R11) : List R11 := (l.filter fun r => matchB q r.k).map fun r => ⟨groupK q r.k, r.c⟩
def grpF (q : Q13) (l : List F9) : List F9 := (l.filter fun f => matchB q f.k).map fun f => ⟨groupK q f.k, f.v⟩
/-- Groups. -/
def foldR (q : Q13) (l : List R11) : Option (List R11) := putsR [] (grpR q l)
def foldF (q : Q13) (l : List F9) : Option (List R11) := foldR q (l.map rowF)
theorem grpR_facts (q : Q13) (l : List F9) : grpR q (l.map rowF) = (grpF q l).map rowF := by
  unfold grpR grpF
  rw [List.filter_map, List.map_map, List.map_map]
  rfl
theorem foldF_is (q : Q13) (l : List F9) : foldF q l = ofR (grpF q l) := by
  unfold foldF foldR ofR
  rw [grpR_facts]
theorem grpF_append (q : Q13) (l m : List F9) : grpF q (l ++ m) = grpF q l ++ grpF q m := by
  unfold grpF
  rw [List.filter_append, List.map_append]
theorem grpR_append (q : Q13) (l m : List R11) : grpR q (l ++ m) = grpR q l ++ grpR q m := by
  unfold grpR
  rw [List.filter_append, List.map_append]
theorem grpF_small {q : Q13} {l : List F9} (h : Small l) : Small (grpF q l) := by
  refine ⟨?_, fun f hf => ?_⟩
  · unfold grpF
    rw [List.length_map]
    exact Nat.le_trans (List.length_filter_le _ _) h.1
  · unfold grpF at hf
    obtain ⟨g, hg, rfl⟩ := List.mem_map.1 hf
    exact h.2 g (List.mem_filter.1 hg).1
/-- Facts in two parts, joined with the second part first, are facts at once. -/
theorem fold_parts {q : Q13} {a b : List F9} (h : Small (a ++ b)) : ∃ ra rb r, foldF q a = some ra ∧ foldF q b = some rb ∧ foldF q (a ++ b) = some r ∧ mergeR [rb, ra] = some r := by
  have ha : Small a := h.part (fun f hf => List.mem_append_left _ hf) (by rw [List.length_append]; omega)
  have hb : Small b := h.part (fun f hf => List.mem_append_right _ hf) (by rw [List.length_append]; omega)
  obtain ⟨ra, a1, a2⟩ := of_small (grpF_small (q := q) ha)
  obtain ⟨rb, b1, b2⟩ := of_small (grpF_small (q := q) hb)
  obtain ⟨r, r1, r2⟩ := of_small (grpF_small (q := q) h)
  refine ⟨ra, rb, r, by rw [foldF_is, a1], by rw [foldF_is, b1], by rw [foldF_is, r1], ?_⟩
  have hs := grpF_small (q := q) h
  rw [grpF_append] at hs r2
  exact parts_small hs a2 b2 r2

theorem cellL_perm {a b : List Int} (h : a.Perm b) : weighN a ≤ 4611686018427387904 → a.length ≤ 1000000 → cellL a = cellL b := by
  induction h with
  | nil => exact fun _ _ => rfl
  | cons x hp ih =>
    rename_i l m
    intro hw hl
    have e1 : ∀ t, weighN (x :: t) = weighN [x] + weighN t := fun t => weighN_append [x] t
    rw [List.length_cons] at hl
    rw [e1] at hw
    have i := ih (by omega) (by omega)
    have h1 := merge_parts [x] l (by omega) (by rw [List.length_singleton]; omega)
    have h2 := merge_parts [x] m (by rw [← weigh_perm hp]; omega) (by rw [List.length_singleton, ← hp.length_eq]; omega)
    rw [← i, h1] at h2
    exact Option.some.inj h2
  | swap x y l =>
    intro hw hl
    have e1 : ∀ t, weighN (y :: x :: t) = weighN [y] + weighN [x] + weighN t := fun t => by
      have := weighN_append [y] (x :: t)
      have h2 := weighN_append [x] t
      simp only [List.singleton_append] at this h2
      omega
    rw [e1] at hw
    simp only [List.length_cons] at hl
    have hs := cellL_swap [y] [x] (by omega) (by simp)
    have h1 := merge_parts ([y] ++ [x]) l (by rw [weighN_append]; omega) (by simp; omega)
    have h2 := merge_parts ([x] ++ [y]) l (by rw [weighN_append]; omega) (by simp; omega)
    rw [hs, h2] at h1
    exact (Option.some.inj h1).symm
  | trans h1 h2 i1 i2 =>
    intro hw hl
    exact (i1 hw hl).trans (i2 (by rw [← weigh_perm h1]; exact hw) (by rw [← h1.length_eq]; exact hl))
theorem more_cells : ∀ (xs : List (List Int)) (vs : List Int), (∀ x ∈ xs, x ≠ []) → vs ≠ [] → weighN vs + weighN xs.flatten ≤ 4611686018427387904 → vs.length + xs.flatten.length ≤ 1000000 → moreO (some (cellL vs)) (xs.map cellL) = some (some (cellL (vs ++ xs.flatten)))
  | [], vs, _, _, _, _ => by rw [List.flatten_nil, List.append_nil]; rfl
  | x :: xs, vs, hx, hv, hw, hl => by
    rw [List.flatten_cons, weighN_append] at hw
    rw [List.flatten_cons, List.length_append] at hl
    have hm := merge_parts vs x (by omega) (by omega)
    have ih := more_cells xs (vs ++ x) (fun y hy => hx y (List.mem_cons_of_mem _ hy)) (by simp [hv]) (by rw [weighN_append]; omega) (by rw [List.length_append]; omega)
    rw [List.map_cons]
    have ha : addO (some (cellL vs)) (cellL x) = some (cellL (vs ++ x)) := hm
    simp only [moreO, ha]
    rw [ih, List.flatten_cons, List.append_assoc]
theorem more_first (xs : List (List Int)) (hx : ∀ x ∈ xs, x ≠ []) (hw : weighN xs.flatten ≤ 4611686018427387904) (hl : xs.flatten.length ≤ 1000000) : moreO none (xs.map cellL) = some (optL xs.flatten) := by
  cases xs with
  | nil => rfl
  | cons x xs =>
    rw [List.flatten_cons, weighN_append] at hw
    rw [List.flatten_cons, List.length_append] at hl
    have h0 := hx x (List.mem_cons_self ..)
    have h := more_cells xs x (fun y hy => hx y (List.mem_cons_of_mem _ hy)) h0 hw hl
    rw [List.map_cons, List.flatten_cons]
    simp only [moreO, addO]
    rw [h]
    unfold optL
    rw [if_neg (by simp [h0])]
theorem cellsOf_grp (q : Q13) (k : K9) (s : List R11) : cellsOf k (grpR q s) = ((s.filter fun r => matchB q r.k && decide (groupK q r.k = k)).map (·.c)) := by
  induction s with
  | nil => rfl
  | cons r t ih =>
    have e : grpR q (r :: t) = (if matchB q r.k then [⟨groupK q r.k, r.c⟩] else []) ++ grpR q t := by
      have := grpR_append q [r] t
      rw [List.singleton_append] at this
      rw [this]
      congr 1
      unfold grpR
      by_cases h : matchB q r.k <;> simp [h]
    rw [e, cellsOf_append, ih]
    by_cases h : matchB q r.k = true
    · by_cases g : groupK q r.k = k
      · simp [h, g, cellsOf]
      · simp [h, g, cellsOf]
    · simp [h, cellsOf]
theorem vals_grp (q : Q13) (k : K9) (l : List F9) : valsF k (grpF q l) = ((l.filter fun f => matchB q f.k && decide (groupK q f.k = k)).map (·.v)) := by
  unfold valsF grpF
  rw [List.filter_map, List.map_map, List.filter_filter]
  congr 1
  refine List.filter_congr fun f _ => ?_
  simp [Bool.and_comm]
/-- A segment's groups are its facts'. -/
theorem fold_seg {q : Q13} {l : List F9} {s r : List R11} (h : Small l) (hs : ofR l = some s) (hr : foldF q l = some r) : foldR q s = some r := by
  obtain ⟨s', s1, s2, s3⟩ := of_small h
  rw [hs] at s1
  cases s1
  obtain ⟨r', r1, r2, r3⟩ := of_small (grpF_small (q := q) h)
  rw [foldF_is, r1] at hr
  cases hr
  unfold foldR
  refine puts_is r2 fun k => ?_
  rw [r3 k, cellsOf_grp, vals_grp]
  have hsub : RiseR (s.filter fun x => matchB q x.k && decide (groupK q x.k = k)) := s2.filter _
  have hcell : ∀ x ∈ s, x.c = cellL (valsF x.k l) ∧ valsF x.k l ≠ [] := fun x hx => by
    have e := find_of s2 hx
    rw [s3 x.k] at e
    unfold optL at e
    by_cases hv : valsF x.k l = []
    · rw [if_pos hv] at e; cases e
    · rw [if_neg hv] at e
      exact ⟨(Option.some.inj e).symm, hv⟩
  obtain ⟨t, ht⟩ : ∃ t, t = s.filter fun x => matchB q x.k && decide (groupK q x.k = k) := ⟨_, rfl⟩
  rw [← ht] at hsub ⊢
  have e1 : t.map (·.c) = (t.map fun x => valsF x.k l).map cellL := by
    rw [List.map_map]
    refine List.map_congr_left fun x hx => ?_
    rw [ht] at hx
    exact (hcell x (List.mem_filter.1 hx).1).1
  have hp := keys_perm l hsub
  have e2 : (l.filter fun f => decide (f.k ∈ t.map (·.k))) = l.filter fun f => matchB q f.k && decide (groupK q f.k = k) := by
    refine List.filter_congr fun f hf => ?_
    rw [Bool.eq_iff_iff, decide_eq_true_iff, Bool.and_eq_true, decide_eq_true_iff]
    constructor
    · intro hm
      obtain ⟨x, hx, e⟩ := List.mem_map.1 hm
      rw [ht] at hx
      have := (List.mem_filter.1 hx).2
      rw [Bool.and_eq_true, decide_eq_true_iff] at this
      rw [← e]
      exact this
    · rintro ⟨g1, g2⟩
      have hv : valsF f.k l ≠ [] := by
        unfold valsF
        intro e
        have hm : f ∈ l.filter fun g => decide (g.k = f.k) := List.mem_filter.2 ⟨hf, by simp⟩
        rw [List.map_eq_nil_iff] at e
        rw [e] at hm
        cases hm
      have e := s3 f.k
      unfold optL at e
      rw [if_neg hv] at e
      have hmem := find_mem e
      exact List.mem_map.2 ⟨⟨f.k, cellL (valsF f.k l)⟩, by rw [ht]; exact List.mem_filter.2 ⟨hmem, by simp [g1, g2]⟩, rfl⟩
  rw [e2] at hp
  have hp2 : ((t.map fun x => valsF x.k l).flatten).Perm ((l.filter fun f => matchB q f.k && decide (groupK q f.k = k)).map (·.v)) := by
    have := hp.map (·.v)
    rw [List.map_flatMap] at this
    refine List.Perm.trans (List.Perm.of_eq ?_) this
    rw [List.flatMap_def]
    rfl
  have hsm := (grpF_small (q := q) h).vals k
  rw [vals_grp] at hsm
  have hw : weighN ((t.map fun x => valsF x.k l).flatten) ≤ 4611686018427387904 := by rw [weigh_perm hp2]; omega
  have hl : ((t.map fun x => valsF x.k l).flatten).length ≤ 1000000 := by rw [hp2.length_eq]; omega
  rw [e1, more_first _ (fun x hx => by
    obtain ⟨y, hy, rfl⟩ := List.mem_map.1 hx
    rw [ht] at hy
    exact (hcell y (List.mem_filter.1 hy).1).2) hw hl]
  unfold optL
  rw [cellL_perm hp2 hw hl]
  by_cases hn : (t.map fun x => valsF x.k l).flatten = []
  · rw [hn] at hp2
    rw [if_pos hn, if_pos (List.nil_perm.1 hp2)]
  · rw [if_neg hn, if_neg (fun e => hn (by rw [e] at hp2; exact List.perm_nil.1 hp2))]

end Go.Proofs.Ytklpmajaihmmfaa

/-
  Stage 13: the document's Matches and Group; which queries are light; the program's Cut.
-/
namespace Go.Proofs.Ytklpmajaihmmfaa
open Go.RowKit

set_option maxRecDepth 100000

theorem key_cell13 {W : World} {g : Nat} {k : K9} (h : Box W g 44 #[.int .i64 k.h, sv9 k.a, sv9 k.b, sv9 k.c, sv9 k.d]) {i : Nat} (hi : i < 4) : W.cell? ⟨g, 1 + i, none⟩ = some (sv9 (k.dim i)) := dim_cell (o := 1) h key_cells i hi

set_option maxHeartbeats 16000000 in
theorem ref_matches13 (q : Q13) (k : K9) (w : World) : Calls Try.prog 27 #[qv13 q, kv9 k] w fun e w' => e = .returned (.bool (matchB q k)) ∧ Turn (fun _ => False) w w' := by
  unfold qv13 kv9
  obtain ⟨w0, hw0⟩ : ∃ w0, w0 = (w.alloc (.cells (cells13 q) 25)).alloc (.cells #[.int .i64 k.h, sv9 k.a, sv9 k.b, sv9 k.c, sv9 k.d] 44) := ⟨_, rfl⟩
  have h0 := Qk13.new w q k
  rw [← hw0] at h0
  have HW := Lib.hid hw0
  have HAT0 := Lib.hid h0
  obtain ⟨⟨b0, b1, -⟩, ⟨m0, -⟩⟩ := h0.s
  rw [hw0] at b0 b1 m0
  clear hw0 h0
  by_cases hA : q.lo ≤ k.h
  · by_cases hB : k.h < q.hi
    · have hA2 : ¬ (k.h < q.lo) := by omega
      have hB2 : ¬ (q.hi ≤ k.h) := by omega
      have HNO : Hid (∀ i, i < 4 → q.h.nth i = true → q.f.nth i ≠ k.dim i → matchB q k = false) := fun i hi ht hne => by
        unfold matchB
        rw [decide_eq_false (fun h => hne (match_iff.1 h i hi ht)), Bool.and_false]
      have HYES : Hid ((∀ i, i < 4 → q.h.nth i = true → q.f.nth i = k.dim i) → matchB q k = true) := fun h => by
        unfold matchB
        rw [decide_eq_true hA, decide_eq_true hB, decide_eq_true (match_iff.2 h)]
        rfl
      clear hA hB
      go_enter Try.func27, Try.ntmps27
      go_wp2_with fail
      rw [← HW.out]
      obtain ⟨b, hbb⟩ : ∃ b, b = w.heap.size := ⟨_, rfl⟩
      obtain ⟨m, hmm⟩ : ∃ m, m = w.heap.size + 1 := ⟨_, rfl⟩
      rw [← hmm, ← hbb]
      rw [← hmm, ← hbb] at HAT0
      clear b0 b1 m0 HW hbb hmm hA2 hB2
      go_loopw [5] (fun x5 wr => ∃ i n : Nat, wr = w0.drewN n ∧ x5 = .int .i64 (i : Int) ∧ i ≤ 4 ∧ ∀ j, j < i → q.h.nth j = true → q.f.nth j = k.dim j) (fun x5 _ => 4 - (intOf x5).toNat)
      case atStart => exact ⟨0, 0, rfl, rfl, Nat.zero_le _, fun k hk => absurd hk (Nat.not_lt_zero k)⟩
      case round =>
        obtain ⟨i, n, rfl, rfl, hi, he⟩ := hrel
        have HE := Lib.hid he
        clear he
        by_cases hlt : i < 4
        · have e1 := (HAT0.out.q.cell (6 + i)).trans (q_has13 q hlt)
          have e2 := (HAT0.out.q.cell (10 + i)).trans (q_text13 q hlt)
          have e3 := key_cell13 HAT0.out.k hlt
          have hil : (i : Int) < 4 := by omega
          have HNI := Lib.hid (HNO.out i hlt)
          have HSTEP : Hid ((q.h.nth i = true → q.f.nth i = k.dim i) → ∀ j, j < i + 1 → q.h.nth j = true → q.f.nth j = k.dim j) := fun h j hj => by
            by_cases ej : j = i
            · rw [ej]; exact h
            · exact HE.out j (by omega)
          unfold sv9 at e2 e3
          have HTURN : Hid (Turn (fun _ => False) w w0) := HAT0.out.turn
          generalize q.h.nth i = H at *
          generalize q.f.nth i = T at *
          generalize k.dim i = U at *
          clear HNO HYES HAT0 HE
          cases H with
          | false =>
            have HK := Lib.hid (HSTEP.out (fun h => by cases h))
            clear HSTEP HNI
            go_wp2_with fail
            go_quiet (fail)
            go_wp2
            go_roundw
            case rel => exact ⟨i + 1, _, by first | rfl | simp [World.drewN], by go_num, hlt, HK.out⟩
            case measure => simp [intOf]; omega
          | true =>
            by_cases hT : T = U
            · subst hT
              have HK := Lib.hid (HSTEP.out (fun _ => rfl))
              clear HSTEP HNI
              go_wp2_with fail
              go_quiet (fail)
              go_wp2
              go_roundw
              case rel => exact ⟨i + 1, _, by first | rfl | simp [World.drewN], by go_num, hlt, HK.out⟩
              case measure => simp [intOf]; omega
            · have HK := Lib.hid (HNI.out rfl hT)
              have hne : (T == U) = false := by simpa using hT
              clear HSTEP HNI
              go_wp2_with fail
              go_quiet (fail)
              go_wp2
              go_ret
              rw [HK.out]
              exact ⟨rfl, (HTURN.out.drewN _).drewN _⟩
        · obtain rfl : i = 4 := by omega
          have HK := Lib.hid (HYES.out HE.out)
          have HTURN : Hid (Turn (fun _ => False) w w0) := HAT0.out.turn
          go_wp2
          go_ret
          rw [HK.out]
          exact ⟨rfl, HTURN.out.drewN _⟩
    · have HFIN : Hid (matchB q k = false) := by
        show matchB q k = _
        unfold matchB
        rw [decide_eq_false hB, Bool.and_false, Bool.false_and]
      have hA2 : ¬ (k.h < q.lo) := by omega
      have hB2 : q.hi ≤ k.h := by omega
      clear hA hB
      go_enter Try.func27, Try.ntmps27
      go_wp2_with fail
      rw [← HW.out]
      go_ret
      rw [HFIN.out]
      exact ⟨rfl, HAT0.out.turn⟩
  · have HFIN : Hid (matchB q k = false) := by
      show matchB q k = _
      unfold matchB
      rw [decide_eq_false hA, Bool.false_and, Bool.false_and]
    have hA2 : k.h < q.lo := by omega
    clear hA
    go_enter Try.func27, Try.ntmps27
    go_wp2_with fail
    rw [← HW.out]
    go_ret
    rw [HFIN.out]
    exact ⟨rfl, HAT0.out.turn⟩

abbrev kc13 (v : V4 (List UInt8)) : Array Value := #[.int .i64 0, sv9 v.a, sv9 v.b, sv9 v.c, sv9 v.d]
theorem nth_kc13 (v : V4 (List UInt8)) {i : Nat} (hi : i < 4) : (kc13 v)[1 + i]? = some (sv9 (v.nth i)) := by
  match i, hi with
  | 0, _ => rfl
  | 1, _ => rfl
  | 2, _ => rfl
  | 3, _ => rfl
theorem put_kc13 (v : V4 (List UInt8)) (x : List UInt8) {i : Nat} (hi : i < 4) : (kc13 v).setIfInBounds (1 + i) (sv9 x) = kc13 (v.put i x) := by
  match i, hi with
  | 0, _ => rfl
  | 1, _ => rfl
  | 2, _ => rfl
  | 3, _ => rfl
structure Gr13 (w : World) (b m r o : Nat) (q : Q13) (k : K9) (v : V4 (List UInt8)) (W : World) : Prop where
  q : Box W b 25 (cells13 q)
  k : Box W m 44 #[.int .i64 k.h, sv9 k.a, sv9 k.b, sv9 k.c, sv9 k.d]
  ks : Ks13 w r o 44 (kc13 (V4.fill [])) (kc13 v) W
  bo : b ≠ o
  mo : m ≠ o
theorem Gr13.set {w W : World} {b m r o : Nat} {q : Q13} {k : K9} {v : V4 (List UInt8)} (h : Gr13 w b m r o q k v W) {i : Nat} (hi : i < 4) (x : List UInt8) : Gr13 w b m r o q k (v.put i x) (W.setCell ⟨o, 1 + i, none⟩ (sv9 x)) := by
  have ht : Turn (fun g => g = o) W (W.setCell ⟨o, 1 + i, none⟩ (sv9 x)) := Turn.setCell (S := fun g => g = o) (p := ⟨o, 1 + i, none⟩) (Turn.refl _ W) (fun _ => rfl) _
  have hs := h.ks.set (1 + i) (sv9 x)
  rw [put_kc13 _ _ hi] at hs
  exact ⟨h.q.turn ht h.bo, h.k.turn ht h.mo, hs, h.bo, h.mo⟩
theorem Gr13.new (w : World) (q : Q13) (k : K9) : Gr13 w w.heap.size (w.heap.size + 1) (w.heap.size + 1 + 1) (w.heap.size + 1 + 1 + 1) q k (V4.fill [])
    ((((w.alloc (.cells (cells13 q) 25)).alloc (.cells #[.int .i64 k.h, sv9 k.a, sv9 k.b, sv9 k.c, sv9 k.d] 44)).alloc (.cells (kc13 (V4.fill [])) 44)).alloc (.cells (kc13 (V4.fill [])) 44)) := by
  have h0 := Qk13.new w q k
  generalize hw0 : (w.alloc (.cells (cells13 q) 25)).alloc (.cells #[.int .i64 k.h, sv9 k.a, sv9 k.b, sv9 k.c, sv9 k.d] 44) = w0 at *
  have hs0 : w0.heap.size = w.heap.size + 1 + 1 := by rw [← hw0, World.size_alloc, World.size_alloc]
  have h1 := (Box.new w0 44 (kc13 (V4.fill []))).alloc (.cells (kc13 (V4.fill [])) 44)
  have h2 := Box.new (w0.alloc (.cells (kc13 (V4.fill [])) 44)) 44 (kc13 (V4.fill []))
  rw [World.size_alloc] at h2
  rw [hs0] at h1 h2
  exact ⟨(h0.q.alloc _).alloc _, (h0.k.alloc _).alloc _, ⟨h1, h2, (h0.turn.alloc _).alloc _, by omega, by omega, by omega⟩, by omega, by omega⟩

set_option maxHeartbeats 16000000 in
theorem ref_group13 (q : Q13) (k : K9) (w : World) : Calls Try.prog 29 #[qv13 q, kv9 k] w fun e w' => e = .returned (kv9 (groupK q k)) ∧ Turn (fun _ => False) w w' := by
  unfold qv13 kv9
  have h0 := Gr13.new w q k
  obtain ⟨w4, hw4⟩ : ∃ w4, w4 = ((((w.alloc (.cells (cells13 q) 25)).alloc (.cells #[.int .i64 k.h, sv9 k.a, sv9 k.b, sv9 k.c, sv9 k.d] 44)).alloc (.cells (kc13 (V4.fill [])) 44)).alloc (.cells (kc13 (V4.fill [])) 44)) := ⟨_, rfl⟩
  rw [← hw4] at h0
  unfold kc13 V4.fill at hw4
  have HKP := Lib.hid h0
  have HW := Lib.hid hw4
  clear h0 hw4
  go_enter Try.func29, Try.ntmps29
  go_wp2_with fail
  rw [← HW.out]
  obtain ⟨b, hbb⟩ : ∃ b, b = w.heap.size := ⟨_, rfl⟩
  obtain ⟨m, hmm⟩ : ∃ m, m = w.heap.size + 1 := ⟨_, rfl⟩
  obtain ⟨r, hr⟩ : ∃ r, r = w.heap.size + 1 + 1 := ⟨_, rfl⟩
  obtain ⟨o, ho⟩ : ∃ o, o = w.heap.size + 1 + 1 + 1 := ⟨_, rfl⟩
  rw [← ho, ← hr, ← hmm, ← hbb]
  rw [← ho, ← hr, ← hmm, ← hbb] at HKP
  clear HW hbb hmm hr ho
  go_loopw [6] (fun x6 wr => ∃ i : Nat, x6 = .int .i64 (i : Int) ∧ i ≤ 4 ∧ Gr13 w b m r o q k (onlyN [] (txOf k) q.g i) wr) (fun x6 _ => 4 - (intOf x6).toNat)
  case atStart => exact ⟨0, rfl, Nat.zero_le _, HKP.out⟩
  case round =>
    clear HKP
    obtain ⟨i, rfl, hi, hm⟩ := hrel
    have HM := Lib.hid hm
    clear hm
    by_cases hlt : i < 4
    · have hil : (i : Int) < 4 := by omega
      have e1 := (HM.out.q.cell (2 + i)).trans (q_group13 q hlt)
      have e2 := key_cell13 HM.out.k hlt
      have f1 : wr.frozen? ⟨o, 1 + i, none⟩ = false := HM.out.ks.kept.free (1 + i)
      have e3 : wr.cell? ⟨o, 1 + i, none⟩ = some (sv9 ((onlyN [] (txOf k) q.g i).nth i)) := (HM.out.ks.kept.cell (1 + i)).trans (nth_kc13 _ hlt)
      have HST : Hid (onlyN [] (txOf k) q.g (i + 1) = if q.g.nth i then (onlyN [] (txOf k) q.g i).put i (k.dim i) else onlyN [] (txOf k) q.g i) := by
        rw [← txOf_nth]
        rfl
      have HM2 := Lib.hid (HM.out.set hlt (k.dim i))
      unfold sv9 at e2
      generalize k.dim i = X at *
      generalize (onlyN [] (txOf k) q.g i).nth i = Y at *
      cases hB : q.g.nth i with
      | false =>
        rw [hB] at HST e1
        have HM3 : Hid (Gr13 w b m r o q k (onlyN [] (txOf k) q.g (i + 1)) wr) := by rw [HST.out]; exact HM.out
        clear hB HST HM2 HM
        go_wp2_with fail
        go_roundw
        case rel => exact ⟨i + 1, by go_num, hlt, HM3.out⟩
        case measure => simp [intOf]; omega
      | true =>
        rw [hB] at HST e1
        have HM3 : Hid (Gr13 w b m r o q k (onlyN [] (txOf k) q.g (i + 1)) (wr.setCell ⟨o, 1 + i, none⟩ (sv9 X))) := by rw [HST.out]; exact HM2.out
        clear hB HST HM2 HM
        go_wp2_with fail
        go_roundw
        case rel => exact ⟨i + 1, by go_num, hlt, HM3.out⟩
        case measure => simp [intOf]; omega
    · obtain rfl : i = 4 := by omega
      rw [onlyN_four] at HM
      have HG : Hid (groupK q k = kOf (onlyP [] (txOf k) q.g)) := rfl
      generalize onlyP [] (txOf k) q.g = u at *
      have b0 : wr.cell? ⟨o, 0, none⟩ = some (.int .i64 0) := HM.out.ks.kept.cell 0
      have b1 : wr.cell? ⟨o, 1, none⟩ = some (sv9 u.a) := HM.out.ks.kept.cell 1
      have b2 : wr.cell? ⟨o, 2, none⟩ = some (sv9 u.b) := HM.out.ks.kept.cell 2
      have b3 : wr.cell? ⟨o, 3, none⟩ = some (sv9 u.c) := HM.out.ks.kept.cell 3
      have b4 : wr.cell? ⟨o, 4, none⟩ = some (sv9 u.d) := HM.out.ks.kept.cell 4
      have d0 : wr.cell? ⟨r, 0, none⟩ = some (.int .i64 0) := HM.out.ks.res.cell 0
      have d1 : wr.cell? ⟨r, 1, none⟩ = some (sv9 []) := HM.out.ks.res.cell 1
      have d2 : wr.cell? ⟨r, 2, none⟩ = some (sv9 []) := HM.out.ks.res.cell 2
      have d3 : wr.cell? ⟨r, 3, none⟩ = some (sv9 []) := HM.out.ks.res.cell 3
      have d4 : wr.cell? ⟨r, 4, none⟩ = some (sv9 []) := HM.out.ks.res.cell 4
      have z0 : wr.frozen? ⟨r, 0, none⟩ = false := HM.out.ks.res.free 0
      have z1 : wr.frozen? ⟨r, 1, none⟩ = false := HM.out.ks.res.free 1
      have z2 : wr.frozen? ⟨r, 2, none⟩ = false := HM.out.ks.res.free 2
      have z3 : wr.frozen? ⟨r, 3, none⟩ = false := HM.out.ks.res.free 3
      have z4 : wr.frozen? ⟨r, 4, none⟩ = false := HM.out.ks.res.free 4
      have HT : Hid (Turn (fun _ => False) w (wr.setCells r 0 [.int .i64 0, sv9 u.a, sv9 u.b, sv9 u.c, sv9 u.d])) := HM.out.ks.turn.trans (turn_setCells (S := fun g => g = r) rfl _ 0 wr) (fun g hg e => by have := HM.out.ks.nr; omega)
      clear HM
      go_wp2
      refine bodyPost_ret (v := .agg #[.int .i64 0, sv9 u.a, sv9 u.b, sv9 u.c, sv9 u.d]) ?_ rfl ⟨by rw [HG.out]; rfl, HT.out⟩
      rw [results_one13 rfl]
      go_simp

/-- Queries whose texts are short. -/
def light13 (q : Q13) : Bool := decide (q.f.a.length ≤ 40) && decide (q.f.b.length ≤ 40) && decide (q.f.c.length ≤ 40) && decide (q.f.d.length ≤ 40)
theorem light_iff13 {q : Q13} : light13 q = true ↔ ∀ i, i < 4 → (q.f.nth i).length ≤ 40 := by
  unfold light13
  simp only [Bool.and_eq_true, decide_eq_true_iff]
  refine ⟨fun h i hi => ?_, fun h => ⟨⟨⟨h 0 (by omega), h 1 (by omega)⟩, h 2 (by omega)⟩, h 3 (by omega)⟩⟩
  match i, hi with
  | 0, _ => exact h.1.1.1
  | 1, _ => exact h.1.1.2
  | 2, _ => exact h.1.2
  | 3, _ => exact h.2

end Go.Proofs.Ytklpmajaihmmfaa

/-
  Stage 14: the document's Rows and Facts.
-/
namespace Go.Proofs.Ytklpmajaihmmfaa
open Go.RowKit

set_option maxRecDepth 100000

theorem grpR_one (q : Q13) (r : R11) : grpR q [r] = if matchB q r.k then [⟨groupK q r.k, r.c⟩] else [] := by
  unfold grpR
  by_cases h : matchB q r.k = true
  · simp [h]
  · simp [h]
theorem grpR_yes {q : Q13} {l : List R11} {i : Nat} {r : R11} (h : l[i]? = some r) (hm : matchB q r.k = true) : grpR q (l.take (i + 1)) = grpR q (l.take i) ++ [⟨groupK q r.k, r.c⟩] := by
  rw [(split_at11 h).1, grpR_append, grpR_one, if_pos hm]
theorem grpR_no {q : Q13} {l : List R11} {i : Nat} {r : R11} (h : l[i]? = some r) (hm : matchB q r.k = false) : grpR q (l.take (i + 1)) = grpR q (l.take i) := by
  rw [(split_at11 h).1, grpR_append, grpR_one, if_neg (by rw [hm]; decide), List.append_nil]
theorem grpR_split {q : Q13} {l : List R11} {i : Nat} {r : R11} (h : l[i]? = some r) (hm : matchB q r.k = true) : grpR q l = grpR q (l.take i) ++ ⟨groupK q r.k, r.c⟩ :: grpR q (l.drop (i + 1)) := by
  conv => lhs; rw [(split_at11 h).2]
  rw [show l.take i ++ r :: l.drop (i + 1) = l.take i ++ ([r] ++ l.drop (i + 1)) from rfl, grpR_append, grpR_append, grpR_one, if_pos hm]
  rfl
theorem grpR_len (q : Q13) (l : List R11) : (grpR q l).length ≤ l.length := by
  unfold grpR
  rw [List.length_map]
  exact List.length_filter_le _ _
theorem grpR_ok {q : Q13} {l : List R11} (h : ∀ r ∈ l, okC r.c) : ∀ r ∈ grpR q l, okC r.c := fun r hr => by
  unfold grpR at hr
  obtain ⟨x, hx, rfl⟩ := List.mem_map.1 hr
  exact h x (List.mem_filter.1 hx).1

set_option maxHeartbeats 16000000 in
theorem ref_rows14 (q : Q13) (v : Value) (l : List R11) (w : World) (hv : RdE ER w v l) (hok : ∀ r ∈ l, okC r.c) (hl : l.length ≤ 20000) :
    Calls Try.prog 11 #[qv13 q, v] w fun e w' => Put11 w (foldR q l) e w' := by
  have HOK := Lib.hid hok
  obtain ⟨A, c, rfl⟩ := hv.shape
  unfold qv13
  obtain ⟨w0, hw0⟩ : ∃ w0, w0 = w.alloc (.cells (cells13 q) 25) := ⟨_, rfl⟩
  obtain ⟨b, hb⟩ : ∃ b, b = w.heap.size := ⟨_, rfl⟩
  have HB0 : Hid (Box w0 b 25 (cells13 q)) := by rw [hw0, hb]; exact Box.new w _ _
  have HT0 : Hid (Turn (fun _ => False) w w0) := by rw [hw0]; exact (Turn.refl _ w).alloc _
  have HV : Hid (RdE ER w0 (.slice A l.length c) l) := hv.later HT0.out
  have HQ : Hid (∀ W, Turn (fun _ => False) w0 W → CQ13 W b q) := fun W ht => cq_box13 (HB0.out.turn ht (fun f => f))
  have HW0 := Lib.hid hw0
  have HBB := Lib.hid hb
  have H0 : Hid (PutsTo w0 [] [] 0 (.slice none 0 0) w0) := ⟨rfl, (fun r h => by cases h), Nat.le_refl _, RdE.nil w0, Turn.refl _ w0⟩
  clear hv hok hw0 hb
  go_enter Try.func11, Try.ntmps11
  go_wp2_with fail
  rw [← HW0.out, ← HBB.out]
  go_loopw [6, 7] (fun x6 x7 wr => ∃ (i : Nat) (acc : List R11), x7 = .int .i64 (i : Int) ∧ i ≤ l.length ∧ PutsTo w0 (grpR q (l.take i)) acc i x6 wr) (fun _ x7 _ => l.length - (intOf x7).toNat)
  case atStart => exact ⟨0, [], rfl, Nat.zero_le _, H0.out⟩
  case round =>
    obtain ⟨i, acc, rfl, hi, hp⟩ := hrel
    have HP := Lib.hid hp
    obtain ⟨B4, d4, e4⟩ := hp.rd.shape
    subst e4
    have hal := hp.len
    clear hp H0
    by_cases hlt : i < l.length
    · obtain ⟨r, hri⟩ : ∃ r, l[i]? = some r := ⟨_, List.getElem?_eq_getElem hlt⟩
      obtain ⟨ad, rfl, hc⟩ := row_at11 HV.out hri
      have HRA : Hid (∀ W, Turn (fun _ => False) wr W → RowAt W (ad.add (i * 9)) r) := fun W ht => hc W (HP.out.turn.trans ht (fun _ _ f => f))
      have HQR : Hid (∀ W, Turn (fun _ => False) wr W → CQ13 W b q) := fun W ht => HQ.out W (HP.out.turn.trans ht (fun _ _ f => f))
      have HOR : Hid (okC r.c) := HOK.out r (List.mem_of_getElem? hri)
      have hil : (i : Int) < l.length := by omega
      have HYES : Hid (matchB q r.k = true → grpR q (l.take (i + 1)) = grpR q (l.take i) ++ [⟨groupK q r.k, r.c⟩]) := fun h => grpR_yes hri h
      have HNOT : Hid (matchB q r.k = false → grpR q (l.take (i + 1)) = grpR q (l.take i)) := fun h => grpR_no hri h
      have HEND : Hid (matchB q r.k = true → putR ⟨groupK q r.k, r.c⟩ acc = none → foldR q l = none) := fun h g => by
        unfold foldR
        rw [grpR_split hri h]
        exact puts_stop HP.out.is g
      clear hc hri
      go_wp2_with fail
      refine drawn_region (fun W => Turn (fun _ => False) wr W) [] (by kernel_rfl) ?_
      have hS0 : Turn (fun _ => False) wr (World.drew wr) := (Turn.refl _ wr).drew
      generalize World.drew wr = wd at *
      refine drawn_take 0 16 (.agg (cells13 q)) rfl rfl (by kernel_rfl) (by kernel_rfl) (by kernel_rfl) (by kernel_rfl) (fun _ _ _ h => h) (by rfl) (by assumption) (by intro w hSw; obtain ⟨b0, b1, b2, b3, b4, b5, b6, b7, b8, b9, b10, b11, b12, b13⟩ := HQR.out w hSw; clear hSw; go_simp) ?_
      try simp only [List.setIfInBounds_toArray, List.set_cons_zero, List.set_cons_succ]
      refine drawn_take 1 17 (.slice (some ad) l.length c) rfl rfl (by kernel_rfl) (by kernel_rfl) (by kernel_rfl) (by kernel_rfl) (fun _ _ _ h => h) (by rfl) (by assumption) (by intro w hSw; obtain hS1 := hSw; go_simp) ?_
      try simp only [List.setIfInBounds_toArray, List.set_cons_zero, List.set_cons_succ]
      refine drawn_take 2 18 (.int .i64 (i : Int)) rfl rfl (by kernel_rfl) (by kernel_rfl) (by kernel_rfl) (by kernel_rfl) (fun _ _ _ h => h) (by rfl) (by assumption) (by intro w hSw; obtain hS1 := hSw; go_simp) ?_
      try simp only [List.setIfInBounds_toArray, List.set_cons_zero, List.set_cons_succ]
      refine drawn_take 3 19 (.pointer (some (ad.add (i * 9)))) rfl rfl (by kernel_rfl) (by kernel_rfl) (by kernel_rfl) (by kernel_rfl) (fun _ _ _ h => h) (by rfl) (by assumption) (by intro w hSw; obtain hS1 := hSw; go_simp) ?_
      try simp only [List.setIfInBounds_toArray, List.set_cons_zero, List.set_cons_succ]
      refine drawn_take 4 20 (.pointer (some (ad.add (i * 9)))) rfl rfl (by kernel_rfl) (by kernel_rfl) (by kernel_rfl) (by kernel_rfl) (fun _ _ _ h => h) (by rfl) (by assumption) (by intro w hSw; obtain hS1 := hSw; go_simp) ?_
      try simp only [List.setIfInBounds_toArray, List.set_cons_zero, List.set_cons_succ]
      refine drawn_take 5 21 (.agg #[.int .i64 r.k.h, sv9 r.k.a, sv9 r.k.b, sv9 r.k.c, sv9 r.k.d]) rfl rfl (by kernel_rfl) (by kernel_rfl) (by kernel_rfl) (by kernel_rfl) (fun _ _ _ h => h) (by rfl) (by assumption) (by intro w hSw; obtain ⟨a0, a1, a2, a3, a4, a5, a6, a7, a8⟩ := HRA.out w hSw; clear hSw; go_simp) ?_
      try simp only [List.setIfInBounds_toArray, List.set_cons_zero, List.set_cons_succ]
      refine drawn_any [6] (by kernel_rfl) (by simp) ?_
      refine drawn_cons rfl (fun K hK => ?_) drawn_nil
      go_simp
      refine (ref_matches13 q r.k wd).mono ?_
      rintro e w2 ⟨rfl, t2⟩
      have hS2 := hS0.trans t2 (fun _ _ f => f)
      clear hS0 t2
      cases hm : matchB q r.k with
      | false =>
        have HST := Lib.hid (HNOT.out hm)
        clear hm HYES HNOT HEND
        refine hK.out _ _ _ hS2 ?_
        clear hK K
        try simp only [List.setIfInBounds_toArray, List.set_cons_zero, List.set_cons_succ]
        refine drawn_last1 7 23 (.bool true) rfl rfl (by kernel_rfl) (by kernel_rfl) (by rfl) (by intro w; go_simp) hS2 ?_
        try simp only [List.setIfInBounds_toArray, List.set_cons_zero, List.set_cons_succ]
        have HT2 := Lib.hid (HP.out.turn.trans hS2 (fun _ _ f => f)); have HS2 := Lib.hid hS2
        clear hS2
        go_wp2
        go_roundw
        case rel => exact ⟨i + 1, acc, by go_num, hlt, by rw [HST.out]; exact ⟨HP.out.is, HP.out.ok, Nat.le_succ_of_le HP.out.len, HP.out.rd.later HS2.out, HT2.out⟩⟩
        case measure => simp [intOf]; omega
      | true =>
        have HST := Lib.hid (HYES.out hm)
        have HNO := Lib.hid (HEND.out hm)
        clear hm HYES HNOT HEND
        refine hK.out _ _ _ hS2 ?_
        clear hK K
        try simp only [List.setIfInBounds_toArray, List.set_cons_zero, List.set_cons_succ]
        refine drawn_last1 7 23 (.bool false) rfl rfl (by kernel_rfl) (by kernel_rfl) (by rfl) (by intro w; go_simp) hS2 ?_
        try simp only [List.setIfInBounds_toArray, List.set_cons_zero, List.set_cons_succ]
        have HG : Hid (∀ W, Calls Try.prog 29 #[.agg (cells13 q), .agg #[.int .i64 r.k.h, sv9 r.k.a, sv9 r.k.b, sv9 r.k.c, sv9 r.k.d]] W fun e w' => e = .returned (kv9 (groupK q r.k)) ∧ Turn (fun _ => False) W w') := fun W => ref_group13 q r.k W
        generalize groupK q r.k = gk at *
        have HPU : Hid (∀ W, Turn (fun _ => False) wr W → Calls Try.prog 28 #[.slice B4 acc.length d4, .agg #[.int .i64 gk.h, sv9 gk.a, sv9 gk.b, sv9 gk.c, sv9 gk.d, .int .i64 r.c.n, .int .i64 r.c.s, .int .i64 r.c.lo, .int .i64 r.c.hi]] W fun e w' => Put11 W (putR ⟨gk, r.c⟩ acc) e w') := fun W ht => ref_put11 _ acc ⟨gk, r.c⟩ W (HP.out.rd.later ht) HP.out.ok HOR.out (by omega)
        have HPN : Hid (∀ m, putR ⟨gk, r.c⟩ acc = some m → m.length ≤ i + 1 ∧ ∀ r ∈ m, okC r.c) := fun m h => ⟨by have := putR_len h; omega, putR_ok (x := ⟨gk, r.c⟩) HOR.out HP.out.ok h⟩
        have HSN : Hid (putsR [] (grpR q (l.take (i + 1))) = putR ⟨gk, r.c⟩ acc) := by show _ = _; rw [HST.out]; exact puts_snoc HP.out.is
        clear HST
        generalize putR ⟨gk, r.c⟩ acc = o at *
        have HS2 := Lib.hid hS2
        have HT2 := Lib.hid (HP.out.turn.trans hS2 (fun _ _ f => f))
        clear hS2
        go_wp2_with fail
        refine drawn_region (fun W => Turn (fun _ => False) wr W) [] (by kernel_rfl) ?_
        have hS0 : Turn (fun _ => False) wr (World.drew w2) := HS2.out.drew
        generalize World.drew w2 = wd at *
        refine drawn_take 0 25 (.slice B4 acc.length d4) rfl rfl (by kernel_rfl) (by kernel_rfl) (by kernel_rfl) (by kernel_rfl) (fun _ _ _ h => h) (by rfl) (by assumption) (by intro w hSw; obtain hS1 := hSw; go_simp) ?_
        try simp only [List.setIfInBounds_toArray, List.set_cons_zero, List.set_cons_succ]
        refine drawn_take 1 26 (.agg (cells13 q)) rfl rfl (by kernel_rfl) (by kernel_rfl) (by kernel_rfl) (by kernel_rfl) (fun _ _ _ h => h) (by rfl) (by assumption) (by intro w hSw; obtain ⟨b0, b1, b2, b3, b4, b5, b6, b7, b8, b9, b10, b11, b12, b13⟩ := HQR.out w hSw; clear hSw; go_simp) ?_
        try simp only [List.setIfInBounds_toArray, List.set_cons_zero, List.set_cons_succ]
        refine drawn_take 2 27 (.slice (some ad) l.length c) rfl rfl (by kernel_rfl) (by kernel_rfl) (by kernel_rfl) (by kernel_rfl) (fun _ _ _ h => h) (by rfl) (by assumption) (by intro w hSw; obtain hS1 := hSw; go_simp) ?_
        try simp only [List.setIfInBounds_toArray, List.set_cons_zero, List.set_cons_succ]
        refine drawn_take 3 28 (.int .i64 (i : Int)) rfl rfl (by kernel_rfl) (by kernel_rfl) (by kernel_rfl) (by kernel_rfl) (fun _ _ _ h => h) (by rfl) (by assumption) (by intro w hSw; obtain hS1 := hSw; go_simp) ?_
        try simp only [List.setIfInBounds_toArray, List.set_cons_zero, List.set_cons_succ]
        refine drawn_take 4 29 (.pointer (some (ad.add (i * 9)))) rfl rfl (by kernel_rfl) (by kernel_rfl) (by kernel_rfl) (by kernel_rfl) (fun _ _ _ h => h) (by rfl) (by assumption) (by intro w hSw; obtain hS1 := hSw; go_simp) ?_
        try simp only [List.setIfInBounds_toArray, List.set_cons_zero, List.set_cons_succ]
        refine drawn_take 5 30 (.pointer (some (ad.add (i * 9)))) rfl rfl (by kernel_rfl) (by kernel_rfl) (by kernel_rfl) (by kernel_rfl) (fun _ _ _ h => h) (by rfl) (by assumption) (by intro w hSw; obtain hS1 := hSw; go_simp) ?_
        try simp only [List.setIfInBounds_toArray, List.set_cons_zero, List.set_cons_succ]
        refine drawn_take 6 31 (.agg #[.int .i64 r.k.h, sv9 r.k.a, sv9 r.k.b, sv9 r.k.c, sv9 r.k.d]) rfl rfl (by kernel_rfl) (by kernel_rfl) (by kernel_rfl) (by kernel_rfl) (fun _ _ _ h => h) (by rfl) (by assumption) (by intro w hSw; obtain ⟨a0, a1, a2, a3, a4, a5, a6, a7, a8⟩ := HRA.out w hSw; clear hSw; go_simp) ?_
        try simp only [List.setIfInBounds_toArray, List.set_cons_zero, List.set_cons_succ]
        refine drawn_take 8 33 (.slice (some ad) l.length c) rfl rfl (by kernel_rfl) (by kernel_rfl) (by kernel_rfl) (by kernel_rfl) (fun _ _ _ h => h) (by rfl) (by assumption) (by intro w hSw; obtain hS1 := hSw; go_simp) ?_
        try simp only [List.setIfInBounds_toArray, List.set_cons_zero, List.set_cons_succ]
        refine drawn_take 9 34 (.int .i64 (i : Int)) rfl rfl (by kernel_rfl) (by kernel_rfl) (by kernel_rfl) (by kernel_rfl) (fun _ _ _ h => h) (by rfl) (by assumption) (by intro w hSw; obtain hS1 := hSw; go_simp) ?_
        try simp only [List.setIfInBounds_toArray, List.set_cons_zero, List.set_cons_succ]
        refine drawn_take 10 35 (.pointer (some (ad.add (i * 9)))) rfl rfl (by kernel_rfl) (by kernel_rfl) (by kernel_rfl) (by kernel_rfl) (fun _ _ _ h => h) (by rfl) (by assumption) (by intro w hSw; obtain hS1 := hSw; go_simp) ?_
        try simp only [List.setIfInBounds_toArray, List.set_cons_zero, List.set_cons_succ]
        refine drawn_take 11 36 (.pointer (some ⟨(ad.add (i * 9)).block, (ad.add (i * 9)).off + 5, none⟩)) rfl rfl (by kernel_rfl) (by kernel_rfl) (by kernel_rfl) (by kernel_rfl) (fun _ _ _ h => h) (by rfl) (by assumption) (by intro w hSw; obtain hS1 := hSw; go_simp) ?_
        try simp only [List.setIfInBounds_toArray, List.set_cons_zero, List.set_cons_succ]
        refine drawn_take 12 37 (.agg #[.int .i64 r.c.n, .int .i64 r.c.s, .int .i64 r.c.lo, .int .i64 r.c.hi]) rfl rfl (by kernel_rfl) (by kernel_rfl) (by kernel_rfl) (by kernel_rfl) (fun _ _ _ h => h) (by rfl) (by assumption) (by intro w hSw; obtain ⟨a0, a1, a2, a3, a4, a5, a6, a7, a8⟩ := HRA.out w hSw; clear hSw; go_simp) ?_
        try simp only [List.setIfInBounds_toArray, List.set_cons_zero, List.set_cons_succ]
        refine drawn_any [7] (by kernel_rfl) (by simp) ?_
        refine drawn_cons rfl (fun K hK => ?_) drawn_nil
        go_simp
        refine (HG.out wd).mono ?_
        rintro e w3 ⟨rfl, t3⟩
        have hS3 := hS0.trans t3 (fun _ _ f => f)
        refine hK.out _ _ _ hS3 ?_
        clear hK K hS0 t3
        try simp only [List.setIfInBounds_toArray, List.set_cons_zero, List.set_cons_succ]
        refine drawn_take 13 38 (.agg #[.int .i64 gk.h, sv9 gk.a, sv9 gk.b, sv9 gk.c, sv9 gk.d, .int .i64 r.c.n, .int .i64 r.c.s, .int .i64 r.c.lo, .int .i64 r.c.hi]) rfl rfl (by kernel_rfl) (by kernel_rfl) (by kernel_rfl) (by kernel_rfl) (fun _ _ _ h => h) (by rfl) (by assumption) (by intro w hSw; obtain hS1 := hSw; go_simp) ?_
        try simp only [List.setIfInBounds_toArray, List.set_cons_zero, List.set_cons_succ]
        refine drawn_any [14] (by kernel_rfl) (by simp) ?_
        refine drawn_cons rfl (fun K hK => ?_) drawn_nil
        go_simp
        refine (HPU.out _ hS3).mono ?_
        rintro e w4 ⟨u, rfl, hu, t4⟩
        have hS4 := hS3.trans t4 (fun _ _ f => f)
        clear hS3 t4
        cases o with
        | none =>
          obtain ⟨B5, d5, e5⟩ := hu.shape
          subst e5
          refine hK.out _ _ _ hS4 ?_
          clear hK K
          try simp only [List.setIfInBounds_toArray, List.set_cons_zero, List.set_cons_succ]
          refine drawn_take 15 24 (.tuple #[.slice B5 0 d5, .int .i64 6]) rfl rfl (by kernel_rfl) (by kernel_rfl) (by kernel_rfl) (by kernel_rfl) (fun _ _ _ h => h) (by rfl) (by assumption) (by intro w hSw; go_simp) ?_
          try simp only [List.setIfInBounds_toArray, List.set_cons_zero, List.set_cons_succ]
          refine drawn_take 16 40 (.slice B5 0 d5) rfl rfl (by kernel_rfl) (by kernel_rfl) (by kernel_rfl) (by kernel_rfl) (fun _ _ _ h => h) (by rfl) (by assumption) (by intro w hSw; go_simp) ?_
          try simp only [List.setIfInBounds_toArray, List.set_cons_zero, List.set_cons_succ]
          refine drawn_take 17 41 (.int .i64 6) rfl rfl (by kernel_rfl) (by kernel_rfl) (by kernel_rfl) (by kernel_rfl) (fun _ _ _ h => h) (by rfl) (by assumption) (by intro w hSw; go_simp) ?_
          try simp only [List.setIfInBounds_toArray, List.set_cons_zero, List.set_cons_succ]
          refine drawn_take 18 8 (.slice B5 0 d5) rfl rfl (by kernel_rfl) (by kernel_rfl) (by kernel_rfl) (by kernel_rfl) (fun _ _ _ h => h) (by rfl) (by assumption) (by intro w hSw; go_simp) ?_
          try simp only [List.setIfInBounds_toArray, List.set_cons_zero, List.set_cons_succ]
          refine drawn_last1 19 9 (.int .i64 6) rfl rfl (by kernel_rfl) (by kernel_rfl) (by rfl) (by intro w; go_simp) hS4 ?_
          try simp only [List.setIfInBounds_toArray, List.set_cons_zero, List.set_cons_succ]
          have HT4 := Lib.hid ((HT0.out.trans HP.out.turn (fun _ _ f => f)).trans hS4 (fun _ _ f => f))
          clear hS4 hu
          go_wp2
          go_ret2
          have HR : Hid (foldR q l = none) := HNO.out trivial
          exact ⟨_, by rw [HR.out]; rfl, by rw [HR.out]; exact RdE.nil _, HT4.out⟩
        | some m =>
          have HMM := Lib.hid (HPN.out m rfl)
          obtain ⟨B5, d5, e5⟩ := hu.shape
          subst e5
          refine hK.out _ _ _ hS4 ?_
          clear hK K
          try simp only [List.setIfInBounds_toArray, List.set_cons_zero, List.set_cons_succ]
          refine drawn_take 15 24 (.tuple #[.slice B5 m.length d5, .int .i64 0]) rfl rfl (by kernel_rfl) (by kernel_rfl) (by kernel_rfl) (by kernel_rfl) (fun _ _ _ h => h) (by rfl) (by assumption) (by intro w hSw; go_simp) ?_
          try simp only [List.setIfInBounds_toArray, List.set_cons_zero, List.set_cons_succ]
          refine drawn_take 16 40 (.slice B5 m.length d5) rfl rfl (by kernel_rfl) (by kernel_rfl) (by kernel_rfl) (by kernel_rfl) (fun _ _ _ h => h) (by rfl) (by assumption) (by intro w hSw; go_simp) ?_
          try simp only [List.setIfInBounds_toArray, List.set_cons_zero, List.set_cons_succ]
          refine drawn_take 17 41 (.int .i64 0) rfl rfl (by kernel_rfl) (by kernel_rfl) (by kernel_rfl) (by kernel_rfl) (fun _ _ _ h => h) (by rfl) (by assumption) (by intro w hSw; go_simp) ?_
          try simp only [List.setIfInBounds_toArray, List.set_cons_zero, List.set_cons_succ]
          refine drawn_take 18 8 (.slice B5 m.length d5) rfl rfl (by kernel_rfl) (by kernel_rfl) (by kernel_rfl) (by kernel_rfl) (fun _ _ _ h => h) (by rfl) (by assumption) (by intro w hSw; go_simp) ?_
          try simp only [List.setIfInBounds_toArray, List.set_cons_zero, List.set_cons_succ]
          refine drawn_last1 19 9 (.int .i64 0) rfl rfl (by kernel_rfl) (by kernel_rfl) (by rfl) (by intro w; go_simp) hS4 ?_
          try simp only [List.setIfInBounds_toArray, List.set_cons_zero, List.set_cons_succ]
          have HT4 := Lib.hid (HP.out.turn.trans hS4 (fun _ _ f => f)); have HU := Lib.hid hu
          clear hS4 hu
          go_wp2
          go_roundw
          case rel => exact ⟨i + 1, m, by go_num, hlt, HSN.out, HMM.out.2, HMM.out.1, HU.out, HT4.out⟩
          case measure => simp [intOf]; omega
    · obtain rfl : i = l.length := by omega
      have HR : Hid (foldR q l = some acc) := by
        have h := HP.out.is
        rw [List.take_length] at h
        exact h
      have HT4 := Lib.hid (HT0.out.trans HP.out.turn (fun _ _ f => f))
      go_wp2
      go_ret2
      exact ⟨_, by rw [HR.out]; rfl, by rw [HR.out]; exact HP.out.rd, HT4.out⟩

set_option maxHeartbeats 16000000 in
theorem ref_facts14 (q : Q13) (v : Value) (l : List F9) (w : World) (hv : RdE EF w v l) (hf : ∀ f ∈ l, fit f.v = true) (hl : l.length ≤ 20000) :
    Calls Try.prog 15 #[qv13 q, v] w fun e w' => Put11 w (foldF q l) e w' := by
  have HF := Lib.hid hf
  obtain ⟨A, c, rfl⟩ := hv.shape
  unfold qv13
  obtain ⟨w0, hw0⟩ : ∃ w0, w0 = w.alloc (.cells (cells13 q) 25) := ⟨_, rfl⟩
  obtain ⟨b, hb⟩ : ∃ b, b = w.heap.size := ⟨_, rfl⟩
  have HB0 : Hid (Box w0 b 25 (cells13 q)) := by rw [hw0, hb]; exact Box.new w _ _
  have HT0 : Hid (Turn (fun _ => False) w w0) := by rw [hw0]; exact (Turn.refl _ w).alloc _
  have HV : Hid (RdE EF w0 (.slice A l.length c) l) := hv.later HT0.out
  have HQ : Hid (∀ W, Turn (fun _ => False) w0 W → CQ13 W b q) := fun W ht => cq_box13 (HB0.out.turn ht (fun f => f))
  have HW0 := Lib.hid hw0
  have HBB := Lib.hid hb
  have H0 : Hid (NewE ER 55 w0 w0 (.slice none 0 0) ((l.take 0).map rowF)) := ⟨OwE.nil _, (fun k e => by simp [Value.ownBlock] at e), Turn.refl _ _⟩
  clear hv hf hw0 hb
  go_enter Try.func15, Try.ntmps15
  go_wp2_with fail
  rw [← HW0.out, ← HBB.out]
  go_loopw [6, 7] (fun x6 x7 wr => ∃ i : Nat, x7 = .int .i64 (i : Int) ∧ i ≤ l.length ∧ NewE ER 55 w0 wr x6 ((l.take i).map rowF)) (fun _ x7 _ => l.length - (intOf x7).toNat)
  case atStart => exact ⟨0, rfl, Nat.zero_le _, H0.out⟩
  case round =>
    obtain ⟨i, rfl, hi, hn⟩ := hrel
    obtain ⟨B4, d4, e4⟩ := hn.own.shape
    have hln : ((l.take i).map rowF).length = i := by rw [List.length_map, List.length_take]; omega
    rw [hln] at e4
    subst e4
    have HN := Lib.hid hn
    have HLN := Lib.hid hln
    clear hn H0 hln
    by_cases hlt : i < l.length
    · obtain ⟨f, hfi⟩ : ∃ f, l[i]? = some f := ⟨_, List.getElem?_eq_getElem hlt⟩
      obtain ⟨ad, rfl, hc⟩ := fact_at6 HV.out hfi
      have HTK : Hid ((l.take (i + 1)).map rowF = (l.take i).map rowF ++ [rowF f]) := by show _ = _; rw [(split_at11 hfi).1, List.map_append]; rfl
      have HSK : Hid (∀ W, Turn (fun k => w0.heap.size ≤ k) wr W → Turn (fun _ => False) w0 W) := fun W ht => HN.out.turn.trans ht (fun k hk e => by omega)
      have HFA := Lib.hid hc
      have hil : (i : Int) < l.length := by omega
      clear hc hfi
      go_wp2_with fail
      refine drawn_region (fun W => Turn (fun k => w0.heap.size ≤ k) wr W) [] (by kernel_rfl) ?_
      have HTD : Hid (Turn (fun _ => False) wr (World.drew wr)) := (Turn.refl _ wr).drew
      have hS0 : Turn (fun k => w0.heap.size ≤ k) wr (World.drew wr) := HTD.out.mono (fun _ _ f => f.elim)
      generalize World.drew wr = wd at *
      refine drawn_take 0 14 (.slice B4 i d4) rfl rfl (by kernel_rfl) (by kernel_rfl) (by kernel_rfl) (by kernel_rfl) (fun _ _ _ h => h) (by rfl) (by assumption) (by intro w hSw; obtain hS1 := hSw; go_simp) ?_
      try simp only [List.setIfInBounds_toArray, List.set_cons_zero, List.set_cons_succ]
      refine drawn_take 1 15 (.slice (some ad) l.length c) rfl rfl (by kernel_rfl) (by kernel_rfl) (by kernel_rfl) (by kernel_rfl) (fun _ _ _ h => h) (by rfl) (by assumption) (by intro w hSw; obtain hS1 := hSw; go_simp) ?_
      try simp only [List.setIfInBounds_toArray, List.set_cons_zero, List.set_cons_succ]
      refine drawn_take 2 16 (.int .i64 (i : Int)) rfl rfl (by kernel_rfl) (by kernel_rfl) (by kernel_rfl) (by kernel_rfl) (fun _ _ _ h => h) (by rfl) (by assumption) (by intro w hSw; obtain hS1 := hSw; go_simp) ?_
      try simp only [List.setIfInBounds_toArray, List.set_cons_zero, List.set_cons_succ]
      refine drawn_take 3 17 (.pointer (some (ad.add (i * 6)))) rfl rfl (by kernel_rfl) (by kernel_rfl) (by kernel_rfl) (by kernel_rfl) (fun _ _ _ h => h) (by rfl) (by assumption) (by intro w hSw; obtain hS1 := hSw; go_simp) ?_
      try simp only [List.setIfInBounds_toArray, List.set_cons_zero, List.set_cons_succ]
      refine drawn_take 4 18 (.pointer (some (ad.add (i * 6)))) rfl rfl (by kernel_rfl) (by kernel_rfl) (by kernel_rfl) (by kernel_rfl) (fun _ _ _ h => h) (by rfl) (by assumption) (by intro w hSw; obtain hS1 := hSw; go_simp) ?_
      try simp only [List.setIfInBounds_toArray, List.set_cons_zero, List.set_cons_succ]
      refine drawn_take 5 19 (.agg #[.int .i64 f.k.h, sv9 f.k.a, sv9 f.k.b, sv9 f.k.c, sv9 f.k.d]) rfl rfl (by kernel_rfl) (by kernel_rfl) (by kernel_rfl) (by kernel_rfl) (fun _ _ _ h => h) (by rfl) (by assumption) (by intro w hSw; obtain ⟨a0, a1, a2, a3, a4, a5⟩ := HFA.out w (HSK.out w hSw); clear hSw; go_simp) ?_
      try simp only [List.setIfInBounds_toArray, List.set_cons_zero, List.set_cons_succ]
      refine drawn_take 6 20 (.slice (some ad) l.length c) rfl rfl (by kernel_rfl) (by kernel_rfl) (by kernel_rfl) (by kernel_rfl) (fun _ _ _ h => h) (by rfl) (by assumption) (by intro w hSw; obtain hS1 := hSw; go_simp) ?_
      try simp only [List.setIfInBounds_toArray, List.set_cons_zero, List.set_cons_succ]
      refine drawn_take 7 21 (.int .i64 (i : Int)) rfl rfl (by kernel_rfl) (by kernel_rfl) (by kernel_rfl) (by kernel_rfl) (fun _ _ _ h => h) (by rfl) (by assumption) (by intro w hSw; obtain hS1 := hSw; go_simp) ?_
      try simp only [List.setIfInBounds_toArray, List.set_cons_zero, List.set_cons_succ]
      refine drawn_take 8 22 (.pointer (some (ad.add (i * 6)))) rfl rfl (by kernel_rfl) (by kernel_rfl) (by kernel_rfl) (by kernel_rfl) (fun _ _ _ h => h) (by rfl) (by assumption) (by intro w hSw; obtain hS1 := hSw; go_simp) ?_
      try simp only [List.setIfInBounds_toArray, List.set_cons_zero, List.set_cons_succ]
      refine drawn_take 9 23 (.pointer (some ⟨(ad.add (i * 6)).block, (ad.add (i * 6)).off + 5, none⟩)) rfl rfl (by kernel_rfl) (by kernel_rfl) (by kernel_rfl) (by kernel_rfl) (fun _ _ _ h => h) (by rfl) (by assumption) (by intro w hSw; obtain hS1 := hSw; go_simp) ?_
      try simp only [List.setIfInBounds_toArray, List.set_cons_zero, List.set_cons_succ]
      refine drawn_take 10 24 (.int .i64 f.v) rfl rfl (by kernel_rfl) (by kernel_rfl) (by kernel_rfl) (by kernel_rfl) (fun _ _ _ h => h) (by rfl) (by assumption) (by intro w hSw; obtain ⟨a0, a1, a2, a3, a4, a5⟩ := HFA.out w (HSK.out w hSw); clear hSw; go_simp) ?_
      try simp only [List.setIfInBounds_toArray, List.set_cons_zero, List.set_cons_succ]
      refine drawn_any [11] (by kernel_rfl) (by simp) ?_
      refine drawn_cons rfl (fun K hK => ?_) drawn_nil
      go_simp
      refine (ref_of f.v _).mono ?_
      rintro e w2 ⟨rfl, rfl⟩
      have HT2 : Hid (Turn (fun _ => False) wr (wd.alloc (.cells #[.int .i64 1, .int .i64 f.v, .int .i64 f.v, .int .i64 f.v] 53))) := HTD.out.alloc _
      generalize World.alloc wd (.cells #[.int .i64 1, .int .i64 f.v, .int .i64 f.v, .int .i64 f.v] 53) = we at *
      have hS2 : Turn (fun k => w0.heap.size ≤ k) wr we := HT2.out.mono (fun _ _ f => f.elim)
      refine hK.out _ _ _ hS2 ?_
      clear hK K hS0 HTD
      try simp only [List.setIfInBounds_toArray, List.set_cons_zero, List.set_cons_succ]
      refine drawn_take 12 26 (.agg #[.int .i64 f.k.h, sv9 f.k.a, sv9 f.k.b, sv9 f.k.c, sv9 f.k.d, .int .i64 1, .int .i64 f.v, .int .i64 f.v, .int .i64 f.v]) rfl rfl (by kernel_rfl) (by kernel_rfl) (by kernel_rfl) (by kernel_rfl) (fun _ _ _ h => h) (by rfl) (by assumption) (by intro w hSw; obtain hS1 := hSw; go_simp) ?_
      try simp only [List.setIfInBounds_toArray, List.set_cons_zero, List.set_cons_succ]
      refine drawn_any [13] (by kernel_rfl) (by simp) ?_
      refine drawn_cons rfl (fun K hK => ?_) drawn_nil
      go_simp
      have HX := Lib.hid (one_row ER 55 we (rowF f))
      have HT3 : Hid (Turn (fun _ => False) wr (we.alloc (.cells (ER.enc (rowF f)).toArray 55))) := HT2.out.alloc _
      have hS3 : Turn (fun k => w0.heap.size ≤ k) wr (we.alloc (.cells (ER.enc (rowF f)).toArray 55)) := HT3.out.mono (fun _ _ f => f.elim)
      have HN3 := Lib.hid (HN.out.later HT3.out)
      refine hK.out _ _ _ hS3 ?_
      clear hK K hS2
      try simp only [List.setIfInBounds_toArray, List.set_cons_zero, List.set_cons_succ]
      refine drawn_any [14] (by kernel_rfl) (by simp) ?_
      refine drawn_cons rfl (fun K hK => ?_) drawn_nil
      refine put_app Try.underlying26 row_info11 row_zero11 (by omega) ((l.take i).map rowF) HN3.out.own [rowF f] HX.out (by rw [HLN.out]; simp only [List.length_cons, List.length_nil]; omega) ?_
      intro A2 n2 c2 w3 ho ht hn2
      have HN4 := Lib.hid (HN3.out.step ho ht hn2)
      have hS4 : Turn (fun k => w0.heap.size ≤ k) wr w3 := hS3.trans ht (fun k _ e => HN3.out.new k e)
      clear ho ht hn2
      refine hK.out _ _ _ hS4 ?_
      clear hK K hS3
      try simp only [List.setIfInBounds_toArray, List.set_cons_zero, List.set_cons_succ]
      refine drawn_last1 15 6 (.slice A2 n2 c2) rfl rfl (by kernel_rfl) (by kernel_rfl) (by rfl) (by intro w; go_simp) hS4 ?_
      try simp only [List.setIfInBounds_toArray, List.set_cons_zero, List.set_cons_succ]
      clear hS4
      go_wp2
      go_roundw
      case rel => exact ⟨i + 1, by go_num, hlt, by rw [HTK.out]; exact HN4.out⟩
      case measure => simp [intOf]; omega
    · obtain rfl : i = l.length := by omega
      have HR : Hid (RdE ER wr (.slice B4 l.length d4) (l.map rowF)) := by have h := HN.out.own.rd; rw [List.take_length] at h; exact h
      obtain ⟨b0, b1, b2, b3, b4, b5, b6, b7, b8, b9, b10, b11, b12, b13⟩ := HQ.out wr HN.out.turn
      have HC := Lib.hid (ref_rows14 q _ (l.map rowF) wr HR.out (fun r hr => by obtain ⟨f, hfl, rfl⟩ := List.mem_map.1 hr; exact okC_of (HF.out f hfl)) (by rw [List.length_map]; exact hl))
      have HT := Lib.hid (HT0.out.trans HN.out.turn (fun _ _ f => f))
      go_wp2_with fail
      refine HC.out.mono ?_
      rintro e w4 ⟨u, rfl, hu, t4⟩
      obtain ⟨B5, d5, rfl⟩ := hu.shape
      have HU := Lib.hid hu
      have HT4 := Lib.hid (HT.out.trans t4 (fun _ _ f => f))
      have HFF : Hid (foldF q l = foldR q (l.map rowF)) := rfl
      generalize foldR q (l.map rowF) = o at *
      obtain ⟨nf, hnf⟩ : ∃ nf : Int, nf = if o.isSome then 0 else 6 := ⟨_, rfl⟩
      rw [← hnf]
      have HNF := Lib.hid hnf
      clear hu t4 b0 b1 b2 b3 b4 b5 b6 b7 b8 b9 b10 b11 b12 b13 hnf
      go_wp2
      go_ret2
      rw [HFF.out]
      exact ⟨_, by rw [HNF.out]; rfl, HU.out, HT4.out⟩

end Go.Proofs.Ytklpmajaihmmfaa

/-
  Stage 14: iterators over rows: what one gives; of facts, of lists of rows.
-/
namespace Go.Proofs.Ytklpmajaihmmfaa
open Go.RowKit Go.Shelf
attribute [local go_sem] Oper.semAt_some wide_fn

set_option maxRecDepth 100000

/-- An iterator over rows: what it gives, if what turns has been laid since, and was there when it began. -/
def It14 (w : World) (v : Value) (L : List R11) : Prop := ∃ gf lb, v = .func (.func gf) #[] lb ∧ (∀ args W, (callFunc gf args).run Try.prog W = .ok (.enter gf args) W) ∧
  ∀ (n : Nat) (S : Nat → Prop), (∀ k, S k → w.heap.size ≤ k) → Feeds n gf lb (fun r => #[rv11 r]) S (fun pre y _ => pre ++ [y] <+: L) (fun xs => xs = L) (fun pre => pre <+: L) w
theorem It14.later {w w' : World} {v : Value} {L : List R11} (h : It14 w v L) (ht : Turn (fun _ => False) w w') : It14 w' v L := by
  obtain ⟨gf, lb, e, h1, h2⟩ := h
  exact ⟨gf, lb, e, h1, fun n S hS l J Jx W hW hl hSW hJ hJx hY h0 => h2 n S (fun k hk => Nat.le_trans ht.size (hS k hk)) l J Jx W (ht.trans hW (fun _ _ f => f)) hl hSW hJ hJx hY h0⟩
/-- Behind a call that answers an iterator. -/
def Iter14 (w : World) (L : List R11) (e : Ending) (w' : World) : Prop := ∃ v, e = .returned v ∧ It14 w' v L ∧ Turn (fun _ => False) w w'
theorem Range11.iter {w : World} {L : List R11} {e : Ending} {w' : World} (h : Range11 w L e w') : Iter14 w L e w' := by
  obtain ⟨gf, lb, e, h1, h2, h3⟩ := h
  exact ⟨_, e, ⟨gf, lb, rfl, h1, fun n S hS => (h3 n S (fun k hk => .inr (hS k hk))).feeds⟩, h2⟩

theorem pre_map {L : List F9} {i : Nat} {f : F9} (h : L[i]? = some f) : (L.take i).map rowF ++ [rowF f] = (L.take (i + 1)).map rowF ∧ (L.take i).map rowF ++ [rowF f] <+: L.map rowF := by
  obtain ⟨h1, -⟩ := split_at11 h
  have e : (L.take i).map rowF ++ [rowF f] = (L.take (i + 1)).map rowF := by rw [h1, List.map_append]; rfl
  exact ⟨e, by rw [e]; exact (List.take_prefix _ _).map rowF⟩

set_option maxHeartbeats 8000000 in
theorem single_feed14 (n q : Nat) (u : Value) (L : List F9) (w : World) (hq : Box w q 39 #[u]) (hu : RdE EF w u L) (hl : L.length ≤ 20000) (S : Nat → Prop) (hS : ∀ k, S k → w.heap.size ≤ k) :
    Feeds n 47 #[.pointer (some ⟨q, 0, none⟩)] (fun r => #[rv11 r]) S (fun pre y _ => pre ++ [y] <+: L.map rowF) (fun xs => xs = L.map rowF) (fun pre => pre <+: L.map rowF) w := fun l J Jx W hW hlW _ hJ hJx hY h0 => by
  have HQ := Lib.hid hq
  have HU := Lib.hid hu
  have HY := Lib.hid hY; have HJ := Lib.hid hJ
  have HS := Lib.hid hS
  have H0 := Lib.hid h0; have HW := Lib.hid hW
  obtain ⟨A, c, rfl⟩ := hu.shape
  have hc0 := (hq.turn hW (fun f => f)).cell 0
  clear hY hJ hJx hlW h0 hq hW hS hu
  refine calls_depth11 (m := 5) ?_
  refine callsIn_of_wp Try.func47 rfl trivial ?_ rfl
  simp only [Try.ntmps47, List.size_toArray, List.length_cons, List.length_nil, Nat.reduceAdd, Nat.reduceSub, Array.replicate_succ, Array.replicate_zero, List.push_toArray, List.append_toArray, List.nil_append, List.cons_append]
  gi_wp2
  gi_loopw [7] (fun x wr => ∃ i : Nat, x = .int .i64 (i : Int) ∧ i ≤ L.length ∧ J ((L.take i).map rowF) wr ∧ Turn (fun _ => False) w wr) (fun x _ => L.length - (intOf x).toNat)
  case atStart => exact ⟨0, rfl, Nat.zero_le _, H0.out, HW.out⟩
  case round =>
    clear H0 hc0
    obtain ⟨i, rfl, hi, hj, ht⟩ := hrel
    have HJ0 := Lib.hid hj; have HT := Lib.hid ht
    clear hj ht
    by_cases hlt : i < L.length
    · obtain ⟨f, hfi⟩ : ∃ f, L[i]? = some f := ⟨_, List.getElem?_eq_getElem hlt⟩
      obtain ⟨ad, rfl, hc⟩ := fact_at6 HU.out hfi
      obtain ⟨a0, a1, a2, a3, a4, a5⟩ := hc wr HT.out
      have hil : (i : Int) < L.length := by omega
      obtain ⟨g, hg⟩ : ∃ g, g = wr.heap.size := ⟨_, rfl⟩
      obtain ⟨w1, hw1⟩ : ∃ w1, w1 = wr.alloc (.cells #[.int .i64 f.k.h, sv9 f.k.a, sv9 f.k.b, sv9 f.k.c, sv9 f.k.d, .int .i64 f.v] 46) := ⟨_, rfl⟩
      have HT1 : Hid (Turn (fun _ => False) wr w1) := by rw [hw1]; exact (Turn.refl _ wr).alloc _
      have HB1 : Hid (Box w1 g 46 #[.int .i64 f.k.h, sv9 f.k.a, sv9 f.k.b, sv9 f.k.c, sv9 f.k.d, .int .i64 f.v]) := by rw [hw1, hg]; exact Box.new wr _ _
      have HPR := Lib.hid (pre_map hfi)
      have HW1 := Lib.hid hw1; have HGG := Lib.hid hg
      clear hc hfi hw1 hg
      gi_wp2_with fail
      rw [← HW1.out, ← HGG.out]
      clear a0 a1 a2 a3 a4 a5
      refine cut_region 7 1 (fun W => Turn (fun _ => False) w1 W) [] op_wide (by kernel_rfl) rfl (by kernel_rfl) ?_
      simp only [List.take_succ_cons, List.take_zero]
      have hS0 : Turn (fun _ => False) w1 (World.drew w1) := (Turn.refl _ w1).drew
      generalize World.drew w1 = wd at *
      refine drawn_take 0 11 (.func (.yield l) #[] #[]) rfl rfl (by kernel_rfl) (by kernel_rfl) (by kernel_rfl) (by kernel_rfl) (fun _ _ _ h => h) (by rfl) (by assumption) (by intro w hSw; obtain hS1 := hSw; go_simp) ?_
      try simp only [List.setIfInBounds_toArray, List.set_cons_zero, List.set_cons_succ]
      refine drawn_take 1 12 (.pointer (some ⟨g, 0, none⟩)) rfl rfl (by kernel_rfl) (by kernel_rfl) (by kernel_rfl) (by kernel_rfl) (fun _ _ _ h => h) (by rfl) (by assumption) (by intro w hSw; obtain hS1 := hSw; go_simp) ?_
      try simp only [List.setIfInBounds_toArray, List.set_cons_zero, List.set_cons_succ]
      refine drawn_take 2 13 (.agg #[.int .i64 f.k.h, sv9 f.k.a, sv9 f.k.b, sv9 f.k.c, sv9 f.k.d]) rfl rfl (by kernel_rfl) (by kernel_rfl) (by kernel_rfl) (by kernel_rfl) (fun _ _ _ h => h) (by rfl) (by assumption) (by intro w hSw; have hb := HB1.out.turn hSw (fun f => f); have a0 := hb.cell 0; have a1 := hb.cell 1; have a2 := hb.cell 2; have a3 := hb.cell 3; have a4 := hb.cell 4; clear hSw hb; go_simp) ?_
      try simp only [List.setIfInBounds_toArray, List.set_cons_zero, List.set_cons_succ]
      refine drawn_take 3 14 (.pointer (some ⟨g, 5, none⟩)) rfl rfl (by kernel_rfl) (by kernel_rfl) (by kernel_rfl) (by kernel_rfl) (fun _ _ _ h => h) (by rfl) (by assumption) (by intro w hSw; obtain hS1 := hSw; go_simp) ?_
      try simp only [List.setIfInBounds_toArray, List.set_cons_zero, List.set_cons_succ]
      refine drawn_take 4 15 (.int .i64 f.v) rfl rfl (by kernel_rfl) (by kernel_rfl) (by kernel_rfl) (by kernel_rfl) (fun _ _ _ h => h) (by rfl) (by assumption) (by intro w hSw; have a5 := (HB1.out.turn hSw (fun f => f)).cell 5; clear hSw; go_simp) ?_
      try simp only [List.setIfInBounds_toArray, List.set_cons_zero, List.set_cons_succ]
      refine drawn_any [5] (by kernel_rfl) (by simp) ?_
      refine drawn_cons rfl (fun K hK => ?_) drawn_nil
      go_simp
      refine (of_any f.v wd).mono ?_
      rintro e w2 ⟨rfl, hw2⟩
      have hS2 : Turn (fun _ => False) w1 w2 := by rw [hw2]; exact hS0.alloc _
      refine hK.out _ _ _ hS2 ?_
      clear hK K hS0 hw2
      try simp only [List.setIfInBounds_toArray, List.set_cons_zero, List.set_cons_succ]
      refine drawn_last1 6 17 (.agg #[.int .i64 f.k.h, sv9 f.k.a, sv9 f.k.b, sv9 f.k.c, sv9 f.k.d, .int .i64 1, .int .i64 f.v, .int .i64 f.v, .int .i64 f.v]) rfl rfl (by kernel_rfl) (by kernel_rfl) (by rfl) (by intro w; go_simp) hS2 ?_
      try simp only [List.setIfInBounds_toArray, List.set_cons_zero, List.set_cons_succ]
      refine goes_on ?_
      intro fu
      have HTW : Hid (Turn (fun _ => False) w w2) := (HT.out.trans HT1.out (fun _ _ f => f)).trans hS2 (fun _ _ f => f)
      obtain ⟨fn, tm, asg, bo, hy, hrr⟩ := yield_depth11 (m' := 5 - 1) (HY.out ((L.take i).map rowF) (rowF f) w2 (HJ.out _ _ _ HJ0.out (HT1.out.trans hS2 (fun _ _ f => f)).none) HPR.out.2)
      have HRR := Lib.hid hrr
      dsimp only [rv11, cells11, rowF, Cl.of] at hy
      clear hrr hS2
      refine wpAnyIn_ready (rs := [7]) (by kernel_rfl) (by simp) ?_
      refine AllReadyIn.cons rfl (fun K hK => ?_) AllReadyIn.nil
      go_simp
      refine HRR.out.mono ?_
      intro e w3 hp
      rcases hp with ⟨rfl, hj2, hk2, -⟩ | ⟨rfl, hx2, -⟩
      · have HJ2 := Lib.hid hj2
        have HK2 := Lib.hid hk2
        refine hK _ _ ?_
        clear hj2 hk2 hK K
        refine wpAnyIn_ready (rs := [8]) (by kernel_rfl) (by simp) ?_
        refine AllReadyIn.cons rfl (fun K hK => ?_) AllReadyIn.nil
        go_simp
        refine hK _ _ ?_
        clear hK K
        refine wpAnyIn_done (by kernel_rfl) ?_ _
        gi_wp2
        go_roundw
        case rel => exact ⟨i + 1, by go_num, hlt, by rw [← HPR.out.1]; exact HJ2.out, HTW.out.trans HK2.out (fun k hk h => by have := HS.out k h; omega)⟩
        case measure => simp [intOf]; omega
      · have HX2 := Lib.hid hx2
        refine hK _ _ ?_
        clear hx2 hK K
        refine wpAnyIn_ready (rs := [8]) (by kernel_rfl) (by simp) ?_
        refine AllReadyIn.cons rfl (fun K hK => ?_) AllReadyIn.nil
        go_simp
        refine hK _ _ ?_
        clear hK K
        refine wpAnyIn_done (by kernel_rfl) ?_ _
        gi_wp2
        refine bodyPost_ret (results_none rfl _ _ _) rfl ?_
        exact ⟨⟨_, rfl⟩, .inr ⟨_, HPR.out.2, HX2.out⟩⟩
    · obtain rfl : i = L.length := by omega
      have HJE : Hid (J (L.map rowF) wr) := by have h := HJ0.out; rw [List.take_length] at h; exact h
      gi_wp2
      go_end0
      exact ⟨⟨_, rfl⟩, .inl ⟨L.map rowF, rfl, HJE.out⟩⟩

set_option maxHeartbeats 2000000 in
theorem single_any14 (v : Value) (L : List F9) (w : World) (h : RdE EF w v L) (hl : L.length ≤ 20000) : Calls Try.prog 30 #[v] w fun e w' => Iter14 w (L.map rowF) e w' := by
  have HR := Lib.hid h
  have HL := Lib.hid hl
  obtain ⟨A, c, rfl⟩ := h.shape
  clear h hl
  go_enter Try.func30, Try.ntmps30
  go_wp2
  go_ret
  have ht : Turn (fun _ => False) w (w.alloc (.cells #[.slice A L.length c] 39)) := (Turn.refl _ w).alloc _
  exact ⟨_, rfl, ⟨_, _, rfl, enters_of Try.func47 (by kernel_rfl) rfl, fun n S hS => single_feed14 n _ _ L _ (Box.new w _ _) (HR.out.later ht) HL.out S hS⟩, ht⟩

end Go.Proofs.Ytklpmajaihmmfaa
