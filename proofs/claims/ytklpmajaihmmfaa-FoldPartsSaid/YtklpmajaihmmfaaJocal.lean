/-
  Texts laid one behind the other: Q2f Tn Q2g Q2d Q2h Q1e Q1h Ex.
-/
import Derived.Test.YtklpmajaihmmfaaJocak
import Derived.Test.YtklpmajaihmmfaaJocai
import Derived.Test.YtklpmajaihmmfaaJocaf
import Derived.Maps.RangeWalk
import Derived.Test.YtklpmajaihmmfaaJocaj
import Derived.Test.YtklpmajaihmmfaaJocae
import Derived.Test.YtklpmajaihmmfaaJocad

/-
  Stage 14: rows gathered into a map of cells by their keys, plain; rows sorted by the program's closure.
-/
namespace Go.Proofs.Ytklpmajaihmmfaa
open Go.RowKit Go.ChangeShapes Go.WideShapes Go.Deep

set_option maxRecDepth 100000

/-- Behind some rows: each key's cell. -/
structure MapP (pre es : List R11) : Prop where
  once : OnceK es
  cells : ∀ k, moreO none (cellsOf k pre) = some (findR k es)
  ok : ∀ r ∈ es, okC r.c
  len : es.length ≤ pre.length
theorem MapP.start : MapP [] [] := ⟨List.Pairwise.nil, fun _ => rfl, (fun r h => by cases h), Nat.le_refl _⟩
theorem cells_snoc (k : K9) (pre : List R11) (x : R11) : cellsOf k (pre ++ [x]) = cellsOf k pre ++ if x.k = k then [x.c] else [] := by
  rw [cellsOf_append, cells_cons]
  show _ ++ ((if x.k = k then [x.c] else []) ++ []) = _
  rw [List.append_nil]
theorem MapP.okat {pre es : List R11} (h : MapP pre es) (k : K9) : okC ((findR k es).getD Cl.zero) := by
  cases hf : findR k es with
  | none => exact okC_zero
  | some c => exact h.ok _ (find_mem hf)
theorem set_ok {k : K9} {c : Cl} (hc : okC c) : ∀ {es : List R11}, (∀ r ∈ es, okC r.c) → ∀ r ∈ setR k c es, okC r.c
  | [], _, r, hr => by unfold setR at hr; rw [List.mem_singleton.1 hr]; exact hc
  | x :: t, ho, r, hr => by
    unfold setR at hr
    split at hr
    · rcases List.mem_cons.1 hr with rfl | hr
      · exact hc
      · exact ho r (List.mem_cons_of_mem _ hr)
    · rcases List.mem_cons.1 hr with rfl | hr
      · exact ho _ (List.mem_cons_self ..)
      · exact set_ok hc (fun y hy => ho y (List.mem_cons_of_mem _ hy)) r hr
theorem MapP.step {pre es : List R11} (h : MapP pre es) {x : R11} {c : Cl} (hx : okC x.c) (hm : mergeC ((findR x.k es).getD Cl.zero) x.c = some c) : MapP (pre ++ [x]) (setR x.k c es) := by
  refine ⟨set_once c h.once, fun k => ?_, set_ok (okC_merge (h.okat x.k) hx hm) h.ok, ?_⟩
  · rw [cells_snoc]
    by_cases e : x.k = k
    · subst e
      rw [if_pos rfl, moreO_append, h.cells, Option.bind_some, addO_is, hm, set_find]
      rfl
    · rw [if_neg e, List.append_nil, h.cells, set_other c (Ne.symm e)]
  · have h1 := set_len x.k c es
    have h2 := h.len
    rw [List.length_append, List.length_singleton]
    omega
theorem MapP.stop {pre es L : List R11} (h : MapP pre es) {x : R11} (hL : pre ++ [x] <+: L) (hm : mergeC ((findR x.k es).getD Cl.zero) x.c = none) : putsR [] L = none := by
  obtain ⟨t, rfl⟩ := hL
  refine puts_not (k := x.k) ?_
  rw [cellsOf_append]
  refine moreO_front ?_
  rw [cells_snoc, if_pos rfl, moreO_append, h.cells, Option.bind_some, addO_is, hm]
  rfl
theorem MapP.all {L es s : List R11} (h : MapP L es) (hs : RiseR s) (hp : s.Perm es) : putsR [] L = some s :=
  puts_is hs fun k => by rw [h.cells k, find_perm hs hp h.once]

set_option maxHeartbeats 2000000 in
theorem sort_closure14 (a b : R11) (w : World) : Calls Try.prog 40 #[rv11 a, rv11 b] w fun e w' => e = .returned (.int .i64 (rowCmp a b)) ∧ Gr w w' := by
  unfold rv11 cells11 rowCmp
  obtain ⟨w0, hw0⟩ : ∃ w0, w0 = (w.alloc (.cells (cells11 a) 55)).alloc (.cells (cells11 b) 55) := ⟨_, rfl⟩
  have HT0 : Hid (Gr w w0) := by rw [hw0]; exact ((Gr.refl w).alloc _).alloc _
  have hb1 : Box w0 w.heap.size 55 (cells11 a) := by rw [hw0]; exact (Box.new w _ _).alloc _
  have hb2 : Box w0 (w.heap.size + 1) 55 (cells11 b) := by
    rw [hw0]
    have h := Box.new (w.alloc (.cells (cells11 a) 55)) 55 (cells11 b)
    rw [World.size_alloc] at h
    exact h
  have HC : Hid (∀ W, Calls Try.prog 22 #[kv9 a.k, kv9 b.k] W fun e w' => e = .returned (.int .i64 (cmpK a.k b.k)) ∧ Gr W w') := fun W => compare_gr9 a.k b.k W
  have HW := Lib.hid hw0
  have a0 := hb1.cell 0
  have a1 := hb1.cell 1
  have a2 := hb1.cell 2
  have a3 := hb1.cell 3
  have a4 := hb1.cell 4
  have b0 := hb2.cell 0
  have b1 := hb2.cell 1
  have b2 := hb2.cell 2
  have b3 := hb2.cell 3
  have b4 := hb2.cell 4
  generalize cmpK a.k b.k = cc at *
  clear hb1 hb2 hw0
  go_enter Try.func40, Try.ntmps40
  go_wp2_with fail
  rw [← HW.out]
  go_wp2_with fail
  refine (HC.out _).mono ?_
  rintro e w2 ⟨rfl, t2⟩
  have HT := Lib.hid (HT0.out.trans t2)
  clear t2
  go_wp2
  go_ret
  exact ⟨rfl, HT.out⟩

theorem sortfunc14 (v : Value) (l : List R11) (w : World) (h : OwE ER 55 w v l) (ho : OnceK l) (hl : l.length ≤ 1000000) :
    Calls Try.prog 35 #[v, .func (.func 40) #[] #[]] w fun e w' => Sorted11 w v l e w' := by
  by_cases h0 : l = []
  · subst h0
    obtain ⟨A, c, rfl⟩ := h.shape
    have hcon := AnyF.slices_SortFunc_none { Try.sortR11 with } A c (.func (.func 40) #[] #[]) w
    exact hcon.mono fun e w' ⟨he, hw⟩ => ⟨he, [], List.Perm.refl _, List.Pairwise.nil, by rw [hw]; exact h, by rw [hw]; exact Turn.refl _ w⟩
  · have hpos : 0 < l.length := List.length_pos_iff.2 h0
    obtain ⟨A, c, rfl⟩ := h.shape
    obtain ⟨ad, rfl, _⟩ := h.some_at hpos
    obtain ⟨cur, had, _, hb, _⟩ := h.home
    have hH := h.holdsK
    have eg : ∀ args w, (callFunc 40 args).run Try.prog w = .ok (.enter 40 args) w := enters_of Try.func40 (by kernel_rfl) rfl
    have hlays : CmpLays Try.prog 40 #[] ER.enc ER.sz rowCmp ad.block 0 l.toArray.size w := fun m os dk _ x y => sort_closure14 x y _
    have hcon := AnyQ.slices_SortFunc Try.sortR11 ER.sz Try.isAgg55 Try.sizeOf55 ER.enc ER.len ER.one rowCmp (by rw [rowCmp_lt]; exact row_swo) 40 #[] ad.block 0 c l.toArray w eg hlays hH hb.lt (by rw [List.size_toArray]; omega)
    rw [← had] at hcon
    refine hcon.mono fun e w' ⟨he, d', n, os, hp, hs, hw⟩ => ?_
    obtain ⟨hsz, _, hperm⟩ := hp
    have e1 : d'.extract 0 l.toArray.size = d' := by rw [← hsz]; exact Array.extract_size
    rw [e1, Array.extract_size] at hperm
    have hsd := h.sorted d' (by rw [hsz, List.size_toArray]) n os
    rw [← hw] at hsd
    have hperm2 : d'.toList.Perm l := hperm
    refine ⟨he, d'.toList, hperm2, ?_, hsd.1, hsd.2.mono fun k _ hk => by rw [hk]; rfl⟩
    refine List.pairwise_iff_getElem.2 fun i j hi hj hij => ?_
    have hi' : i < d'.size := by simpa using hi
    have hj' : j < d'.size := by simpa using hj
    have h1 := hs i j (Nat.zero_le _) hij (by rw [← hsz]; exact hj')
    rw [rowCmp_lt] at h1
    simp only [getElem!_pos d' i hi', getElem!_pos d' j hj'] at h1
    have hne : d'.toList[i].k ≠ d'.toList[j].k := by
      have hd : OnceK d'.toList := (hperm2.symm.pairwise_iff (R := fun a b : R11 => a.k ≠ b.k) (fun h => Ne.symm h)).1 ho
      exact List.pairwise_iff_getElem.1 hd i j hi hj hij
    exact rises_key.tot _ _ (Ne.symm hne) (by simpa using h1)

end Go.Proofs.Ytklpmajaihmmfaa

/-
  Stage 11: the program's both: two lists of rows laid into one.
-/
namespace Go.Proofs.Ytklpmajaihmmfaa
open Go.RowKit

set_option maxRecDepth 100000

theorem made_rows11 (N : Nat) (hN : N ≤ 1000000) (w : World) : (Instr.makeSlice 26 (.int .i64 0) (.int .i64 (N : Int))).run Try.prog w = .ok (.slice (some ⟨w.heap.size, 0, none⟩) 0 N) (w.alloc (.cells (madeCells (Value.cells zv11) (N * 9)) 55)) := by
  obtain ⟨i, hi, hz, h1, h2⟩ := info_parts row_info11
  have h := run_make (P := Try.prog) w 26 55 i _ Try.underlying26 hi hz .i64 .i64 0 (N : Int) (Int.le_refl _) (by omega) (by rw [h2]; omega) (by omega)
  rw [h1, show ((N : Int)).toNat = N from Int.toNat_natCast N] at h
  exact h
theorem new_rows11 (N : Nat) (hN : N ≤ 1000000) (w : World) : NewE ER 55 w (w.alloc (.cells (madeCells (Value.cells zv11) (N * 9)) 55)) (.slice (some ⟨w.heap.size, 0, none⟩) 0 N) [] :=
  ⟨OwE.of_box (E := ER) (L := []) (c := N) (Box.new w _ _) (Nat.zero_le _) (by simp only [maxLen]; omega) (by rw [size_madeCells]; rfl) (by simp [El.flat]), (fun k e => by have h : w.heap.size = k := (by simpa [Value.ownBlock] using e); omega), (Turn.refl _ w).alloc _⟩

/-- How many a slice has. -/
def vlen11 : Value → Nat
  | .slice _ n _ => n
  | _ => 0
theorem tail_one11 {w : World} {ad : Addr} {c : Nat} {x : R11} {B : List R11} (h : RdE ER w (.slice (some ad) (x :: B).length c) (x :: B)) :
    ∃ P c2, RdE ER w (.slice P B.length c2) B ∧ ∀ W, (Instr.slice 26 (.slice (some ad) (x :: B).length c) (some (.int .i64 1)) none none).run Try.prog W = .ok (.slice P B.length c2) W := by
  have hr := rd_tailV h (i := 1) (by simp)
  have hrun := fun W => run_tailV (E := ER) (P := Try.prog) (tS := 26) Try.underlying26 row_size11 (some ad) (x :: B).length c 1 (by simp) W
  have e1 : (x :: B).length - 1 = B.length := by simp
  unfold tailV at hr hrun
  rw [e1] at hr hrun
  exact ⟨_, _, hr, hrun⟩

end Go.Proofs.Ytklpmajaihmmfaa

/-
  Stage 14: gather: rows that an iterator gives, in a map, which is ranged over, and sorted.
-/
namespace Go.Proofs.Ytklpmajaihmmfaa
open Go.RowKit Go.Shelf
attribute [local go_sem] Oper.semAt_some wide_fn

set_option maxRecDepth 100000

theorem results_two14 {fn : Func} {p u : Tmp} {ty tz : TypeId} (h : fn.results = #[.cell p ty, .cell u tz]) (tmps : Array Value) (P : Program) (w : World) :
    (results fn tmps).run P w = ((asAddr (tmps.getD p undef)).run P w).andThen fun a w₁ => ((loadVar ty a).run P w₁).andThen fun v w₂ => ((asAddr (tmps.getD u undef)).run P w₂).andThen fun b w₃ => ((loadVar tz b).run P w₃).andThen fun x w₄ => .ok (.tuple #[v, x]) w₄ := by
  simp only [results, h]
  simp [Sem.run_bind, Result.andThen]

/-- What gather keeps: its results' boxes, its map's box, the map; nothing else has turned. -/
structure GI14 (w : World) (c2 c3 b c4 : Nat) (es : List R11) (V : World) : Prop where
  r : Box V c2 26 #[.slice none 0 0]
  f : Box V c3 31 #[.int .i64 0]
  m : Box V c4 72 #[.map (some b)]
  map : MapIs V b es
  turn : Turn (fun _ => False) w V
theorem GI14.later {w A B : World} {c2 c3 b c4 : Nat} {es : List R11} (h : GI14 w c2 c3 b c4 es A) (ht : Turn (fun _ => False) A B) : GI14 w c2 c3 b c4 es B :=
  ⟨h.r.turn ht (fun f => f), h.f.turn ht (fun f => f), h.m.turn ht (fun f => f), h.map.turn ht (fun f => f), h.turn.trans ht (fun _ _ f => f)⟩
theorem GI14.odd {w A B : World} {c2 c3 b c4 D : Nat} {es : List R11} (h : GI14 w c2 c3 b c4 es A) (hb : b < D) (hD : w.heap.size ≤ D) (ht : Turn (odd D A) A B) : GI14 w c2 c3 b c4 es B :=
  ⟨h.r.odd ht, h.f.odd ht, h.m.odd ht, h.map.turn ht (fun e => by have := e.1; omega), h.turn.trans ht (fun k hk e => by have := e.1; omega)⟩
/-- .. where it stops: no rows, and Overflow. -/
structure GX14 (w : World) (c2 c3 : Nat) (V : World) : Prop where
  r : Box V c2 26 #[.slice none 0 0]
  f : Box V c3 31 #[.int .i64 6]
  turn : Turn (fun _ => False) w V
theorem GX14.odd {w A B : World} {c2 c3 D : Nat} (h : GX14 w c2 c3 A) (hD : w.heap.size ≤ D) (ht : Turn (odd D A) A B) : GX14 w c2 c3 B :=
  ⟨h.r.odd ht, h.f.odd ht, h.turn.trans ht (fun k hk e => by have := e.1; omega)⟩
theorem GI14.start (w : World) : GI14 w w.heap.size (w.heap.size + 1) (w.heap.size + 1 + 1) (w.heap.size + 1 + 1 + 1) [] ((((w.alloc (.cells #[.slice none 0 0] 26)).alloc (.cells #[.int .i64 0] 31)).alloc (.map #[] 0)).alloc (.cells #[.map (some (w.heap.size + 1 + 1))] 72)) := by
  have h2 := Box.new (w.alloc (.cells #[.slice none 0 0] 26)) 31 #[.int .i64 0]
  have h3 := MapIs.new ((w.alloc (.cells #[.slice none 0 0] 26)).alloc (.cells #[.int .i64 0] 31))
  have h4 := Box.new (((w.alloc (.cells #[.slice none 0 0] 26)).alloc (.cells #[.int .i64 0] 31)).alloc (.map #[] 0)) 72 #[.map (some (w.heap.size + 1 + 1))]
  simp only [World.size_alloc] at h2 h3 h4
  exact ⟨(((Box.new w _ _).alloc _).alloc _).alloc _, (h2.alloc _).alloc _, h4, h3.turn ((Turn.refl (fun _ => False) _).alloc _) (fun f => f), ((((Turn.refl _ w).alloc _).alloc _).alloc _).alloc _⟩

set_option maxHeartbeats 16000000 in
theorem gather_any14 (v : Value) (L : List R11) (w : World) (h : It14 w v L) (hok : ∀ r ∈ L, okC r.c) (hl : L.length ≤ 20000) : Calls Try.prog 24 #[v] w fun e w' => Put11 w (putsR [] L) e w' := by
  obtain ⟨gf, lb, rfl, heg, hfe⟩ := h
  have HOK := Lib.hid hok
  have hmk : ∀ W, (Instr.makeMap 72 none).run Try.prog W = .ok (.map (some W.heap.size)) (W.alloc (.map #[] 0)) := fun W => rfl
  have HSI : Hid ((Try.prog.info? 53).map (·.size) = some 4) := by show _ = _; kernel_rfl
  obtain ⟨w0, hw0⟩ : ∃ w0, w0 = (((w.alloc (.cells #[.slice none 0 0] 26)).alloc (.cells #[.int .i64 0] 31)).alloc (.map #[] 0)).alloc (.cells #[.map (some (w.heap.size + 1 + 1))] 72) := ⟨_, rfl⟩
  have hg0 := GI14.start w
  rw [← hw0] at hg0
  have hsz : w0.heap.size = w.heap.size + 4 := by rw [hw0]; simp
  obtain ⟨c2, hc2⟩ : ∃ c2, c2 = w.heap.size := ⟨_, rfl⟩
  obtain ⟨c3, hc3⟩ : ∃ c3, c3 = w.heap.size + 1 := ⟨_, rfl⟩
  obtain ⟨b, hb⟩ : ∃ b, b = w.heap.size + 1 + 1 := ⟨_, rfl⟩
  obtain ⟨c4, hc4⟩ : ∃ c4, c4 = w.heap.size + 1 + 1 + 1 := ⟨_, rfl⟩
  rw [← hc4, ← hb, ← hc3, ← hc2] at hg0
  have HAT : Hid (c2 = w.heap.size ∧ c3 = w.heap.size + 1 ∧ b = w.heap.size + 2 ∧ c4 = w.heap.size + 3 ∧ w0.heap.size = w.heap.size + 4) := ⟨hc2, hc3, hb, hc4, hsz⟩
  have HFE := Lib.hid (hfe 4 (fun k => k = b ∨ k = w0.heap.size + 1) (fun k e => by rcases e with e | e <;> omega))
  have HG0 := Lib.hid hg0
  have HW0 := Lib.hid hw0
  have HN : Hid (c4 = w.heap.size + 1 + 1 + 1 ∧ b = w.heap.size + 1 + 1 ∧ c3 = w.heap.size + 1 ∧ c2 = w.heap.size) := ⟨hc4, hb, hc3, hc2⟩
  clear hfe hok hw0 hg0 hsz hc2 hc3 hb hc4
  refine (callsIn_wide (n := 5)).1 ?_
  refine callsIn_of_wp_marks Try.func24 rfl trivial ?_ rfl
  simp only [Try.ntmps24, List.size_toArray, List.length_cons, List.length_nil, Nat.reduceAdd, Nat.reduceSub, Array.replicate_succ, Array.replicate_zero, List.push_toArray, List.append_toArray, List.nil_append, List.cons_append]
  refine wpIn_wide.2 ?_
  go_wp2_with fail
  rw [← HW0.out, ← HN.out.1, ← HN.out.2.1, ← HN.out.2.2.1, ← HN.out.2.2.2]
  clear hmk HW0 HN
  refine (wpIn_wide (n := 5)).1 ?_
  refine' over7 (n := 5) (by omega) (gf := gf) (lb := lb) rfl heg HFE.out HG0.out.turn (Or.inr rfl) ?hS2 (fun _ => rfl) _
    (fun (pre : List R11) V => ∃ es, GI14 w c2 c3 b c4 es V ∧ MapP pre es)
    (fun c xs V => c = .ret ∧ putsR [] L = none ∧ GX14 w c2 c3 V)
    ?hI ?hIx ?h0 (fun pre y p V => (∃ es, GI14 w c2 c3 b c4 es V ∧ MapP pre es) ∧ Box V p 55 (cells11 y) ∧ pre ++ [y] <+: L) ?hax ?assign ?body ?done ?stop
  case assign =>
    intro l0 pre x V K hi hgv hK
    have HK := Lib.hid hK
    have HT : Hid (Turn (fun _ => False) V (V.alloc (.cells (cells11 x) 55))) := (Turn.refl _ V).alloc _
    have HB : Hid ((∃ es, GI14 w c2 c3 b c4 es (V.alloc (.cells (cells11 x) 55)) ∧ MapP pre es) ∧ Box (V.alloc (.cells (cells11 x) 55)) V.heap.size 55 (cells11 x) ∧ pre ++ [x] <+: L) := by
      obtain ⟨es, h1, h2⟩ := hi
      exact ⟨⟨es, h1.later HT.out, h2⟩, Box.new V _ _, hgv⟩
    clear hK hi hgv
    gi_wp2
    generalize V.alloc (.cells (cells11 x) 55) = V2 at *
    generalize V.heap.size = p at *
    exact HK.out p _ HB.out HT.out
  case hS2 =>
    intro k hk
    have := HAT.out
    rcases hk with h | h <;> omega
  case hI =>
    intro s V V' ⟨es, h1, h2⟩ ht
    have := HAT.out
    exact ⟨es, h1.odd (by omega) (by omega) ht, h2⟩
  case hIx =>
    intro c s V V' ⟨h1, h2, h3⟩ ht
    have := HAT.out
    exact ⟨h1, h2, h3.odd (by omega) ht⟩
  case h0 => exact ⟨[], HG0.out, MapP.start⟩
  case hax =>
    rintro pre y p A B ⟨⟨es, h1, h2⟩, h3, h4⟩ ht
    have := HAT.out
    exact ⟨⟨es, h1.odd (by omega) (by omega) ht, h2⟩, h3.odd ht, h4⟩
  case body =>
    rintro l0 pre ⟨xk, ⟨xn, xs, xl, xh⟩⟩ p V ⟨⟨es, hg, hr⟩, hbx, hgv⟩
    have HG := Lib.hid hg; have HB := Lib.hid hbx
    have HXO : Hid (okC ⟨xn, xs, xl, xh⟩) := HOK.out ⟨xk, ⟨xn, xs, xl, xh⟩⟩ (by obtain ⟨t, rfl⟩ := hgv; simp)
    have HLK : Hid (∀ W, Turn (fun _ => False) V W → (Instr.lookup 72 (.map (some b)) (kv9 xk) false).run Try.prog W = .ok (cv ((findR xk es).getD Cl.zero)) W) := fun W ht => lookup_run (HG.out.map.turn ht (fun f => f)) xk
    have HKC := Lib.hid (hr.okat xk)
    have HSO : Hid (∀ c, mergeC ((findR xk es).getD Cl.zero) ⟨xn, xs, xl, xh⟩ = some c → MapP (pre ++ [⟨xk, ⟨xn, xs, xl, xh⟩⟩]) (setR xk c es)) := fun c h => hr.step (x := ⟨xk, ⟨xn, xs, xl, xh⟩⟩) HXO.out h
    have HNO : Hid (mergeC ((findR xk es).getD Cl.zero) ⟨xn, xs, xl, xh⟩ = none → putsR [] L = none) := fun h => hr.stop hgv h
    obtain ⟨⟨cn, cs, cl, ch⟩, hC⟩ : ∃ C, C = (findR xk es).getD Cl.zero := ⟨_, rfl⟩
    rw [← hC] at HLK HKC HSO HNO
    unfold cv kv9 at HLK
    have HMC : Hid (∀ W, Calls Try.prog 33 #[.agg #[.int .i64 cn, .int .i64 cs, .int .i64 cl, .int .i64 ch], .agg #[.int .i64 xn, .int .i64 xs, .int .i64 xl, .int .i64 xh]] W fun e w' => e = .returned (outC (mergeC ⟨cn, cs, cl, ch⟩ ⟨xn, xs, xl, xh⟩)) ∧ Turn (fun _ => False) W w') := fun W => merge_any cn cs cl ch xn xs xl xh W HKC HXO
    generalize mergeC ⟨cn, cs, cl, ch⟩ ⟨xn, xs, xl, xh⟩ = o at *
    obtain ⟨n2, s2, lo2, hi2, ho2, hg2⟩ := outC_shape o
    rw [ho2] at HMC
    have HG2 := Lib.hid hg2
    obtain ⟨bb, hbb⟩ : ∃ bb, bb = o.isSome := ⟨_, rfl⟩
    rw [← hbb] at HMC
    have HBS := Lib.hid hbb
    clear hg hr hbx hgv ho2 hg2 hbb hC
    gi_wp2_with fail
    refine drawn_region_in (fun W => Turn (fun _ => False) V W) [] (by kernel_rfl) (by kernel_rfl) ?_
    have hS0 : Turn (fun _ => False) V (World.drew V) := (Turn.refl _ V).drew
    generalize World.drew V = wd at *
    refine drawn_take 0 15 (.map (some b)) rfl rfl (by kernel_rfl) (by kernel_rfl) (by kernel_rfl) (by kernel_rfl) (fun _ _ _ h => h) (by rfl) (by assumption) (by intro w hSw; have a0 := (HG.out.m.turn hSw (fun f => f)).cell 0; clear hSw; go_simp) ?_
    try simp only [List.setIfInBounds_toArray, List.set_cons_zero, List.set_cons_succ]
    refine drawn_take 1 16 (.pointer (some ⟨p, 0, none⟩)) rfl rfl (by kernel_rfl) (by kernel_rfl) (by kernel_rfl) (by kernel_rfl) (fun _ _ _ h => h) (by rfl) (by assumption) (by intro w hSw; obtain hS1 := hSw; go_simp) ?_
    try simp only [List.setIfInBounds_toArray, List.set_cons_zero, List.set_cons_succ]
    refine drawn_take 2 17 (.agg #[.int .i64 xk.h, sv9 xk.a, sv9 xk.b, sv9 xk.c, sv9 xk.d]) rfl rfl (by kernel_rfl) (by kernel_rfl) (by kernel_rfl) (by kernel_rfl) (fun _ _ _ h => h) (by rfl) (by assumption) (by intro w hSw; have hb := HB.out.turn hSw (fun f => f); have a0 := hb.cell 0; have a1 := hb.cell 1; have a2 := hb.cell 2; have a3 := hb.cell 3; have a4 := hb.cell 4; clear hSw hb; go_simp) ?_
    try simp only [List.setIfInBounds_toArray, List.set_cons_zero, List.set_cons_succ]
    refine drawn_take 3 18 (.agg #[.int .i64 cn, .int .i64 cs, .int .i64 cl, .int .i64 ch]) rfl rfl (by kernel_rfl) (by kernel_rfl) (by kernel_rfl) (by kernel_rfl) (fun _ _ _ h => h) (by rfl) (by assumption) (by intro w hSw; have hlk := HLK.out w hSw; clear hSw; go_simp) ?_
    try simp only [List.setIfInBounds_toArray, List.set_cons_zero, List.set_cons_succ]
    refine drawn_take 4 19 (.pointer (some ⟨p, 5, none⟩)) rfl rfl (by kernel_rfl) (by kernel_rfl) (by kernel_rfl) (by kernel_rfl) (fun _ _ _ h => h) (by rfl) (by assumption) (by intro w hSw; obtain hS1 := hSw; go_simp) ?_
    try simp only [List.setIfInBounds_toArray, List.set_cons_zero, List.set_cons_succ]
    refine drawn_take 5 20 (.agg #[.int .i64 xn, .int .i64 xs, .int .i64 xl, .int .i64 xh]) rfl rfl (by kernel_rfl) (by kernel_rfl) (by kernel_rfl) (by kernel_rfl) (fun _ _ _ h => h) (by rfl) (by assumption) (by intro w hSw; have hb := HB.out.turn hSw (fun f => f); have a5 := hb.cell 5; have a6 := hb.cell 6; have a7 := hb.cell 7; have a8 := hb.cell 8; clear hSw hb; go_simp) ?_
    try simp only [List.setIfInBounds_toArray, List.set_cons_zero, List.set_cons_succ]
    refine drawn_any [6, 10] (by kernel_rfl) (by simp) ?_
    refine drawn_cons rfl (fun K hK => ?_) (drawn_cons rfl (fun K hK => ?_) drawn_nil)
    ·
      go_simp
      refine (HMC.out _).mono ?_
      rintro e w3 ⟨rfl, t3⟩
      have hS3 := hS0.trans t3 (fun _ _ f => f)
      refine hK.out _ _ _ hS3 ?_
      clear hK K
      try simp only [List.setIfInBounds_toArray, List.set_cons_zero, List.set_cons_succ]
      refine drawn_take 7 14 (.tuple #[.agg #[.int .i64 n2, .int .i64 s2, .int .i64 lo2, .int .i64 hi2], .bool bb]) rfl rfl (by kernel_rfl) (by kernel_rfl) (by kernel_rfl) (by kernel_rfl) (fun _ _ _ h => h) (by rfl) (by assumption) (by intro w hSw; go_simp) ?_
      try simp only [List.setIfInBounds_toArray, List.set_cons_zero, List.set_cons_succ]
      refine drawn_take 8 22 (.agg #[.int .i64 n2, .int .i64 s2, .int .i64 lo2, .int .i64 hi2]) rfl rfl (by kernel_rfl) (by kernel_rfl) (by kernel_rfl) (by kernel_rfl) (fun _ _ _ h => h) (by rfl) (by assumption) (by intro w hSw; go_simp) ?_
      try simp only [List.setIfInBounds_toArray, List.set_cons_zero, List.set_cons_succ]
      refine drawn_take 9 23 (.bool bb) rfl rfl (by kernel_rfl) (by kernel_rfl) (by kernel_rfl) (by kernel_rfl) (fun _ _ _ h => h) (by rfl) (by assumption) (by intro w hSw; go_simp) ?_
      try simp only [List.setIfInBounds_toArray, List.set_cons_zero, List.set_cons_succ]
      clear hS0 t3
      refine drawn_any [10] (by kernel_rfl) (by simp) ?_
      refine drawn_cons rfl (fun K hK => ?_) drawn_nil
      go_simp
      obtain ⟨g6, hg6⟩ : ∃ g6, g6 = w3.heap.size := ⟨_, rfl⟩
      have hgr : V.heap.size ≤ g6 := by rw [hg6]; exact hS3.size
      obtain ⟨w4, hw4⟩ : ∃ w4, w4 = w3.alloc (.cells #[.int .i64 0, .int .i64 0, .int .i64 0, .int .i64 0] 53) := ⟨_, rfl⟩
      have hb4 : Box w4 g6 53 #[.int .i64 0, .int .i64 0, .int .i64 0, .int .i64 0] := by rw [hw4, hg6]; exact Box.new w3 _ _
      have hS4 : Turn (fun _ => False) V w4 := by rw [hw4]; exact hS3.alloc _
      rw [← hw4, ← hg6]
      refine hK.out _ _ _ hS4 ?_
      clear hK K hS3 hw4 hg6
      try simp only [List.setIfInBounds_toArray, List.set_cons_zero, List.set_cons_succ]
      refine drawn_any [11] (by kernel_rfl) (by simp) ?_
      refine drawn_cons rfl (fun K hK => ?_) drawn_nil
      have HB4 : Hid (Box w4 g6 53 #[.int .i64 0, .int .i64 0, .int .i64 0, .int .i64 0]) := hb4
      have HTH : Hid (w4.there g6 0 4) := HB4.out.there (Nat.le_refl 4)
      refine put_box g6 0 (ca ⟨n2, s2, lo2, hi2⟩) HTH.out rfl rfl HSI.out (cell_one11 _) ?_
      obtain ⟨w5, hw5⟩ : ∃ w5, w5 = w4.setCells g6 0 (ca ⟨n2, s2, lo2, hi2⟩).toList := ⟨_, rfl⟩
      have HB6 : Hid (Box w5 g6 53 (ca ⟨n2, s2, lo2, hi2⟩)) := by rw [hw5]; exact HB4.out.all _ rfl
      have hS5 : Turn (fun _ => False) V w5 := by rw [hw5]; exact hS4.trans (turn_setCells (S := fun k => k = g6) rfl _ _ _) (fun k hk e => by have := hgr; omega)
      have e5 : w4.setCells g6 0 [.int .i64 n2, .int .i64 s2, .int .i64 lo2, .int .i64 hi2] = w5 := hw5.symm
      try rw [← hw5]
      try rw [e5]
      refine hK.out _ _ _ hS5 ?_
      clear hK K hw5 e5 HB4 HTH hb4 hS4
      try simp only [List.setIfInBounds_toArray, List.set_cons_zero, List.set_cons_succ]
      refine drawn_last1 12 7 (.bool bb) rfl rfl (by kernel_rfl) (by kernel_rfl) (by rfl) (by intro w; go_simp) hS5 ?_
      try simp only [List.setIfInBounds_toArray, List.set_cons_zero, List.set_cons_succ]
      have HFT := Lib.hid hS5
      have hg5 := HG.out.later hS5
      have hbf := HB.out.turn hS5 (fun f => f)
      clear hS5
      refine goes_on ?_
      cases o with
      | none =>
        have eb : bb = false := HBS.out
        subst eb
        have HE : Hid (putsR [] L = none) := HNO.out rfl
        have HG5 := Lib.hid hg5
        have r0 := hg5.r.cell 0
        have r1 := hg5.r.free 0
        have hne : c2 ≠ c3 := by have := HAT.out; omega
        have f0 := (hg5.f.far (p := ⟨c2, 0, none⟩) (Ne.symm hne) (.slice none 0 0)).cell 0
        have f1 := (hg5.f.far (p := ⟨c2, 0, none⟩) (Ne.symm hne) (.slice none 0 0)).free 0
        clear hbf hg5
        gi_wp2
        have hst : Turn (fun k => k = c2 ∨ k = c3) w5 ((w5.setCell ⟨c2, 0, none⟩ (.slice none 0 0)).setCell ⟨c3, 0, none⟩ (.int .i64 6)) := ((Turn.refl (fun k => k = c2 ∨ k = c3) w5).setCell (p := ⟨c2, 0, none⟩) (fun _ => .inl rfl) _).setCell (p := ⟨c3, 0, none⟩) (fun _ => .inr rfl) _
        refine ⟨(Still.turned HFT.out).trans ((Still.setCell _ _ _).trans (Still.setCell _ _ _)), rfl, HE.out, ?_, ?_, ?_⟩
        · exact (HG5.out.r.set 0 (.slice none 0 0)).far hne _
        · exact (HG5.out.f.far (p := ⟨c2, 0, none⟩) (Ne.symm hne) _).set 0 (.int .i64 6)
        · exact HG5.out.turn.trans hst (fun k hk e => by have := HAT.out; omega)
      | some d =>
        have eb : bb = true := HBS.out
        subst eb
        have ed2 : d = ⟨n2, s2, lo2, hi2⟩ := HG2.out
        subst ed2
        have HNX := Lib.hid (HSO.out _ rfl)
        have hst := store_run hg5.map xk ⟨n2, s2, lo2, hi2⟩
        have hsd := stored hg5.map (setR xk ⟨n2, s2, lo2, hi2⟩ es)
        obtain ⟨w6, hw6⟩ : ∃ w6, w6 = Go.ChangeMaps.setBlock w5 b (.map (entsR (setR xk ⟨n2, s2, lo2, hi2⟩ es)) (setR xk ⟨n2, s2, lo2, hi2⟩ es).length) := ⟨_, rfl⟩
        rw [← hw6] at hst hsd
        unfold kv9 cv at hst
        have HSD := Lib.hid hsd
        have HG5 := Lib.hid hg5
        obtain ⟨⟨b0, b1, b2, b3⟩, _⟩ := box_cells HB6.out
        have m0 := hg5.m.cell 0
        have k0 := hbf.cell 0
        have k1 := hbf.cell 1
        have k2 := hbf.cell 2
        have k3 := hbf.cell 3
        have k4 := hbf.cell 4
        simp only [cells11] at k0 k1 k2 k3 k4
        clear hbf hg5 hsd hw6
        gi_wp2
        have hsz := HSD.out.2.size
        refine ⟨(Still.turned HFT.out).trans ⟨hsz, fun k ob hk ho _ => (HSD.out.2.block k (Array.getElem?_eq_some_iff.1 ho).1 (fun e => by have := HAT.out; omega)).trans ho⟩, (HFT.out.none).trans HSD.out.2 (fun k _ e => .inl e), _, ⟨?_, ?_, ?_, HSD.out.1, ?_⟩, HNX.out⟩
        · exact HG5.out.r.turn HSD.out.2 (by have := HAT.out; omega)
        · exact HG5.out.f.turn HSD.out.2 (by have := HAT.out; omega)
        · exact HG5.out.m.turn HSD.out.2 (by have := HAT.out; omega)
        · exact HG5.out.turn.trans HSD.out.2 (fun k hk e => by have := HAT.out; omega)
    · go_simp
      obtain ⟨g6, hg6⟩ : ∃ g6, g6 = wd.heap.size := ⟨_, rfl⟩
      have hgr : V.heap.size ≤ g6 := by rw [hg6]; exact hS0.size
      obtain ⟨wa, hwa⟩ : ∃ wa, wa = wd.alloc (.cells #[.int .i64 0, .int .i64 0, .int .i64 0, .int .i64 0] 53) := ⟨_, rfl⟩
      have HBA : Hid (True ∧ Box wa g6 53 #[.int .i64 0, .int .i64 0, .int .i64 0, .int .i64 0]) := ⟨trivial, by rw [hwa, hg6]; exact Box.new wd _ _⟩
      have hSa : Turn (fun _ => False) V wa := by rw [hwa]; exact hS0.alloc _
      rw [← hwa, ← hg6]
      refine hK.out _ _ _ hSa ?_
      clear hK K hS0 hwa hg6
      try simp only [List.setIfInBounds_toArray, List.set_cons_zero, List.set_cons_succ]
      refine drawn_any [6] (by kernel_rfl) (by simp) ?_
      refine drawn_cons rfl (fun K hK => ?_) drawn_nil
      have hS0 := hSa
      clear hSa
      go_simp
      refine (HMC.out _).mono ?_
      rintro e w3 ⟨rfl, t3⟩
      have hS3 := hS0.trans t3 (fun _ _ f => f)
      refine hK.out _ _ _ hS3 ?_
      clear hK K
      try simp only [List.setIfInBounds_toArray, List.set_cons_zero, List.set_cons_succ]
      refine drawn_take 7 14 (.tuple #[.agg #[.int .i64 n2, .int .i64 s2, .int .i64 lo2, .int .i64 hi2], .bool bb]) rfl rfl (by kernel_rfl) (by kernel_rfl) (by kernel_rfl) (by kernel_rfl) (fun _ _ _ h => h) (by rfl) (by assumption) (by intro w hSw; go_simp) ?_
      try simp only [List.setIfInBounds_toArray, List.set_cons_zero, List.set_cons_succ]
      refine drawn_take 8 22 (.agg #[.int .i64 n2, .int .i64 s2, .int .i64 lo2, .int .i64 hi2]) rfl rfl (by kernel_rfl) (by kernel_rfl) (by kernel_rfl) (by kernel_rfl) (fun _ _ _ h => h) (by rfl) (by assumption) (by intro w hSw; go_simp) ?_
      try simp only [List.setIfInBounds_toArray, List.set_cons_zero, List.set_cons_succ]
      refine drawn_take 9 23 (.bool bb) rfl rfl (by kernel_rfl) (by kernel_rfl) (by kernel_rfl) (by kernel_rfl) (fun _ _ _ h => h) (by rfl) (by assumption) (by intro w hSw; go_simp) ?_
      try simp only [List.setIfInBounds_toArray, List.set_cons_zero, List.set_cons_succ]
      have hb4 := HBA.out.2.turn t3 (fun f => f)
      obtain ⟨w4, hw4⟩ : ∃ w4, w4 = w3 := ⟨_, rfl⟩
      subst hw4
      have hS4 := hS3
      clear hS0 t3 HBA hS3
      refine drawn_any [11] (by kernel_rfl) (by simp) ?_
      refine drawn_cons rfl (fun K hK => ?_) drawn_nil
      have HB4 : Hid (Box w4 g6 53 #[.int .i64 0, .int .i64 0, .int .i64 0, .int .i64 0]) := hb4
      have HTH : Hid (w4.there g6 0 4) := HB4.out.there (Nat.le_refl 4)
      refine put_box g6 0 (ca ⟨n2, s2, lo2, hi2⟩) HTH.out rfl rfl HSI.out (cell_one11 _) ?_
      obtain ⟨w5, hw5⟩ : ∃ w5, w5 = w4.setCells g6 0 (ca ⟨n2, s2, lo2, hi2⟩).toList := ⟨_, rfl⟩
      have HB6 : Hid (Box w5 g6 53 (ca ⟨n2, s2, lo2, hi2⟩)) := by rw [hw5]; exact HB4.out.all _ rfl
      have hS5 : Turn (fun _ => False) V w5 := by rw [hw5]; exact hS4.trans (turn_setCells (S := fun k => k = g6) rfl _ _ _) (fun k hk e => by have := hgr; omega)
      have e5 : w4.setCells g6 0 [.int .i64 n2, .int .i64 s2, .int .i64 lo2, .int .i64 hi2] = w5 := hw5.symm
      try rw [← hw5]
      try rw [e5]
      refine hK.out _ _ _ hS5 ?_
      clear hK K hw5 e5 HB4 HTH hb4 hS4
      try simp only [List.setIfInBounds_toArray, List.set_cons_zero, List.set_cons_succ]
      refine drawn_last1 12 7 (.bool bb) rfl rfl (by kernel_rfl) (by kernel_rfl) (by rfl) (by intro w; go_simp) hS5 ?_
      try simp only [List.setIfInBounds_toArray, List.set_cons_zero, List.set_cons_succ]
      have HFT := Lib.hid hS5
      have hg5 := HG.out.later hS5
      have hbf := HB.out.turn hS5 (fun f => f)
      clear hS5
      refine goes_on ?_
      cases o with
      | none =>
        have eb : bb = false := HBS.out
        subst eb
        have HE : Hid (putsR [] L = none) := HNO.out rfl
        have HG5 := Lib.hid hg5
        have r0 := hg5.r.cell 0
        have r1 := hg5.r.free 0
        have hne : c2 ≠ c3 := by have := HAT.out; omega
        have f0 := (hg5.f.far (p := ⟨c2, 0, none⟩) (Ne.symm hne) (.slice none 0 0)).cell 0
        have f1 := (hg5.f.far (p := ⟨c2, 0, none⟩) (Ne.symm hne) (.slice none 0 0)).free 0
        clear hbf hg5
        gi_wp2
        have hst : Turn (fun k => k = c2 ∨ k = c3) w5 ((w5.setCell ⟨c2, 0, none⟩ (.slice none 0 0)).setCell ⟨c3, 0, none⟩ (.int .i64 6)) := ((Turn.refl (fun k => k = c2 ∨ k = c3) w5).setCell (p := ⟨c2, 0, none⟩) (fun _ => .inl rfl) _).setCell (p := ⟨c3, 0, none⟩) (fun _ => .inr rfl) _
        refine ⟨(Still.turned HFT.out).trans ((Still.setCell _ _ _).trans (Still.setCell _ _ _)), rfl, HE.out, ?_, ?_, ?_⟩
        · exact (HG5.out.r.set 0 (.slice none 0 0)).far hne _
        · exact (HG5.out.f.far (p := ⟨c2, 0, none⟩) (Ne.symm hne) _).set 0 (.int .i64 6)
        · exact HG5.out.turn.trans hst (fun k hk e => by have := HAT.out; omega)
      | some d =>
        have eb : bb = true := HBS.out
        subst eb
        have ed2 : d = ⟨n2, s2, lo2, hi2⟩ := HG2.out
        subst ed2
        have HNX := Lib.hid (HSO.out _ rfl)
        have hst := store_run hg5.map xk ⟨n2, s2, lo2, hi2⟩
        have hsd := stored hg5.map (setR xk ⟨n2, s2, lo2, hi2⟩ es)
        obtain ⟨w6, hw6⟩ : ∃ w6, w6 = Go.ChangeMaps.setBlock w5 b (.map (entsR (setR xk ⟨n2, s2, lo2, hi2⟩ es)) (setR xk ⟨n2, s2, lo2, hi2⟩ es).length) := ⟨_, rfl⟩
        rw [← hw6] at hst hsd
        unfold kv9 cv at hst
        have HSD := Lib.hid hsd
        have HG5 := Lib.hid hg5
        obtain ⟨⟨b0, b1, b2, b3⟩, _⟩ := box_cells HB6.out
        have m0 := hg5.m.cell 0
        have k0 := hbf.cell 0
        have k1 := hbf.cell 1
        have k2 := hbf.cell 2
        have k3 := hbf.cell 3
        have k4 := hbf.cell 4
        simp only [cells11] at k0 k1 k2 k3 k4
        clear hbf hg5 hsd hw6
        gi_wp2
        have hsz := HSD.out.2.size
        refine ⟨(Still.turned HFT.out).trans ⟨hsz, fun k ob hk ho _ => (HSD.out.2.block k (Array.getElem?_eq_some_iff.1 ho).1 (fun e => by have := HAT.out; omega)).trans ho⟩, (HFT.out.none).trans HSD.out.2 (fun k _ e => .inl e), _, ⟨?_, ?_, ?_, HSD.out.1, ?_⟩, HNX.out⟩
        · exact HG5.out.r.turn HSD.out.2 (by have := HAT.out; omega)
        · exact HG5.out.f.turn HSD.out.2 (by have := HAT.out; omega)
        · exact HG5.out.m.turn HSD.out.2 (by have := HAT.out; omega)
        · exact HG5.out.turn.trans HSD.out.2 (fun k hk e => by have := HAT.out; omega)
  case stop =>
    rintro D c0 pre V hD hP ⟨rfl, h2, h3⟩ hK
    have HX := Lib.hid h3; have HE := Lib.hid h2
    have hodd : Turn (odd w0.heap.size V) V (V.putObj D (.deferred none)) := Turn.putObj _ D _ ⟨hD, _, hK, rfl⟩
    have HX2 := Lib.hid (h3.odd (by have := HAT.out; omega) hodd)
    have r0 := HX2.out.r.cell 0; have f0 := HX2.out.f.cell 0
    clear h2 h3
    gi_wp2
    refine ⟨by simp, .inl ⟨_, _, rfl, run_takeDeferred hK, ?_⟩⟩
    refine ⟨.tuple #[.slice none 0 0, .int .i64 6], ?_, ?_⟩
    · rw [results_two14 rfl]
      go_simp
    · exact ⟨_, by rw [HE.out]; rfl, by rw [HE.out]; exact RdE.nil _, HX2.out.turn⟩
  case done =>
    rintro D xs V hD hA ⟨es, hg, hr⟩ hK
    have hA' : L = xs := Eq.symm hA
    subst hA'
    have hesl := hr.len
    have HG := Lib.hid hg; have HR := Lib.hid hr; have HKD := Lib.hid hK; have HDD := Lib.hid hD
    have HDV : Hid (D < V.heap.size) := (Array.getElem?_eq_some_iff.1 hK).1
    have hmk := made_rows11 es.length (by omega) V
    have HN0 := Lib.hid (new_rows11 es.length (by omega) V)
    have hln := fun ty => len_run hg.map ty
    have hmt := hg.map.turn ((Turn.refl (fun _ => False) V).alloc (.cells (madeCells (Value.cells zv11) (es.length * 9)) 55)) (fun f => f)
    have hrg := range_run hmt
    have m0 := hg.m.cell 0
    have m1 := (hg.m.alloc (.cells (madeCells (Value.cells zv11) (es.length * 9)) 55)).cell 0
    obtain ⟨w2, hw2⟩ : ∃ w2, w2 = (V.alloc (.cells (madeCells (Value.cells zv11) (es.length * 9)) 55)).alloc (.mapIter (some b) es.length #[] es.length) := ⟨_, rfl⟩
    obtain ⟨R, hR⟩ : ∃ R, R = (V.alloc (.cells (madeCells (Value.cells zv11) (es.length * 9)) 55)).heap.size := ⟨_, rfl⟩
    have HM2 : Hid (MapIs w2 b es) := by rw [hw2]; exact hmt.turn ((Turn.refl (fun _ => False) _).alloc _) (fun f => f)
    have HI2 : Hid (IterIs w2 R b es #[]) := by rw [hw2, hR]; exact heap_alloc_new _ _
    have HN2 : Hid (NewE ER 55 V w2 (.slice (some ⟨V.heap.size, 0, none⟩) 0 es.length) []) := by rw [hw2]; exact HN0.out.alloc _
    have HRB : Hid (R ≠ b ∧ V.heap.size ≤ R ∧ b < V.heap.size) := by
      have h1 := hg.map.lt
      refine ⟨?_, ?_, h1⟩
      · rw [hR, World.size_alloc]; omega
      · rw [hR, World.size_alloc]; omega
    rw [← hw2, ← hR] at hrg
    have HRR : Hid (R = V.heap.size + 1) := by show R = _; rw [hR, World.size_alloc]
    simp only [Value.cells] at hrg hmk m1
    have HES := Lib.hid hesl
    clear hmt hw2 hR hg hr hK hD hA
    go_wp2_with fail
    clear hmk hrg hln m0 m1
    go_loopw [8] (fun x8 wz => ∃ (done : List R11) (seen : Array Nat), NewE ER 55 V wz x8 done ∧ MapIs wz b es ∧ IterIs wz R b es seen ∧ ((leftR es seen).map (·.1) ++ done).Perm es) (fun x8 _ => es.length - vlen11 x8)
    case atStart => exact ⟨[], #[], HN2.out, HM2.out, HI2.out, by rw [left_all, List.append_nil, List.zipIdx_map_fst]⟩
    case round =>
      clear HN2 HM2 HI2 HN0
      obtain ⟨done, seen, hn, hm, hi, hp⟩ := hrel
      have HN := Lib.hid hn; have HM := Lib.hid hm; have HI := Lib.hid hi; have HP := Lib.hid hp
      obtain ⟨A9, c9, rfl⟩ := hn.own.shape
      have hdl : (leftR es seen).length + done.length = es.length := by have h := hp.length_eq; rw [List.length_append, List.length_map] at h; exact h
      rcases next_run hm hi 0 with ⟨h0, hnx⟩ | ⟨p, hpl, wx, hwx, hnx⟩
      · have HPE : Hid (done.Perm es) := by show List.Perm _ _; rw [h0, List.map_nil, List.nil_append] at hp; exact hp
        have hnx2 : ∀ ty, (Instr.next (.pointer (some ⟨R, 0, none⟩)) false ty).run Try.prog wr = .ok (.tuple #[.bool false]) wr := fun ty => hnx
        clear hn hm hi hp hnx h0
        have HOD : Hid (OnceK done) := (HPE.out.symm.pairwise_iff (R := fun a b : R11 => a.k ≠ b.k) (fun h => Ne.symm h)).1 HR.out.once
        have HSO := Lib.hid (sortfunc14 _ done wr HN.out.own HOD.out (by have := HES.out; omega))
        go_wp2_with fail
        refine HSO.out.mono ?_
        rintro e w5 ⟨rfl, s5, hsp, hsr, hso, hst⟩
        have HE : Hid (putsR [] L = some s5) := HR.out.all hsr (hsp.trans HPE.out)
        have HO5 := Lib.hid hso
        have HT5 : Hid (Turn (fun _ => False) V w5) := HN.out.turn.trans hst (fun k hk e => by have h1 := HN.out.new k e; omega)
        have hsl : s5.length = done.length := hsp.length_eq
        have HSL := Lib.hid hsl
        have hg5 := HG.out.later HT5.out
        have hne : c2 ≠ c3 := by have := HAT.out; omega
        have r0 := hg5.r.cell 0; have r1 := hg5.r.free 0
        have f0 := (hg5.f.far (p := ⟨c2, 0, none⟩) (Ne.symm hne) (.slice A9 done.length c9)).cell 0
        have f1 := (hg5.f.far (p := ⟨c2, 0, none⟩) (Ne.symm hne) (.slice A9 done.length c9)).free 0
        have HG5 := Lib.hid hg5; have HNE := Lib.hid hne
        have HK5 : Hid (w5.heap[D]? = some (.deferred (some []))) := (HT5.out.block D HDV.out (fun f => f)).trans HKD.out
        clear hsp hsr hso hst HSO hnx2 hg5 hsl hne
        go_wp2
        obtain ⟨wf, hwf⟩ : ∃ wf, wf = (w5.setCell ⟨c2, 0, none⟩ (.slice A9 done.length c9)).setCell ⟨c3, 0, none⟩ (.int .i64 0) := ⟨_, rfl⟩
        rw [← hwf]
        have hlt := HG.out.r.lt
        have hlt3 := HG.out.f.lt
        have tf : Turn (fun k => k = c2 ∨ k = c3) w5 wf := by rw [hwf]; exact ((Turn.refl (fun k => k = c2 ∨ k = c3) w5).setCell (p := ⟨c2, 0, none⟩) (fun _ => .inl rfl) _).setCell (p := ⟨c3, 0, none⟩) (fun _ => .inr rfl) _
        have hcd : ¬ (D = c2 ∨ D = c3) := by have h1 := HAT.out; have h2 := HDD.out; omega
        have kf : wf.heap[D]? = some (.deferred (some [])) := (tf.block D (Array.getElem?_eq_some_iff.1 HK5.out).1 hcd).trans HK5.out
        have td : Turn (fun k => k = D) wf (wf.putObj D (.deferred none)) := Turn.putObj _ D _ rfl
        have b2 : Box (wf.putObj D (.deferred none)) c2 26 #[.slice A9 done.length c9] := by
          refine Box.turn ?_ td (fun e => hcd (.inl e.symm))
          rw [hwf]
          exact (HG5.out.r.set 0 (.slice A9 done.length c9)).far HNE.out _
        have b3 : Box (wf.putObj D (.deferred none)) c3 31 #[.int .i64 0] := by
          refine Box.turn ?_ td (fun e => hcd (.inr e.symm))
          rw [hwf]
          exact (HG5.out.f.far (p := ⟨c2, 0, none⟩) (Ne.symm HNE.out) (.slice A9 done.length c9)).set 0 (.int .i64 0)
        refine ⟨by simp, .inl ⟨_, _, rfl, run_takeDeferred kf, ?_⟩⟩
        refine ⟨.tuple #[.slice A9 done.length c9, .int .i64 0], ?_, ?_⟩
        · have g2 := b2.cell 0
          have g3 := b3.cell 0
          clear hwf r0 r1 f0 f1 tf kf td b2 b3 hcd
          rw [results_two14 rfl]
          go_simp
        · have hno : ∀ k, (Value.slice A9 done.length c9).ownBlock = some k → V.heap.size ≤ k := HN.out.new
          refine ⟨_, by rw [HE.out]; rfl, ?_, ?_⟩
          · rw [HE.out]
            refine (HO5.out.rd.turn tf (fun k hk e => ?_)).turn td (fun k hk e => ?_)
            · have := hno k hk; omega
            · have h1 := hno k hk; have h2 := HDV.out; omega
          · refine (((HG.out.turn.trans HT5.out (fun _ _ f => f)).trans tf (fun k hk e => ?_)).trans td (fun k hk e => ?_))
            · have h1 := HAT.out; omega
            · have h1 := HAT.out; have h2 := HDD.out; omega
      · have hpz : p ∈ es.zipIdx := (List.mem_filter.1 hpl).1
        obtain ⟨hI3, hT3⟩ := iterated hi hwx (seen.push p.2)
        have hperm := left_step hpl
        obtain ⟨w3, hw3⟩ : ∃ w3, w3 = Go.ChangeMaps.setBlock wx R (.mapIter (some b) es.length (seen.push p.2) es.length) := ⟨_, rfl⟩
        rw [← hw3] at hnx hI3 hT3
        have hm3 := hm.turn hT3 (fun e => HRB.out.1 e.symm)
        have hen := entry_run hm3 hpz hI3
        have HM3 := Lib.hid hm3; have HI3 := Lib.hid hI3
        have hno : ∀ k, (Value.slice A9 done.length c9).ownBlock = some k → ¬ k = R := fun k hk e => by
          rcases hn.own.form with ⟨e1, _⟩ | ⟨g, cap, cur, e1, hb, _⟩
          · rw [e1] at hk; simp [Value.ownBlock] at hk
          · rw [e1] at hk
            have : g = k := by simpa [Value.ownBlock] using hk
            rw [this, e] at hb
            have h1 : wr.heap[R]? = _ := hi
            rw [show wr.heap[R]? = _ from hb] at h1
            cases h1
        have hn3 : NewE ER 55 _ w3 (.slice A9 done.length c9) done := ⟨hn.own.turn hT3 hno, hn.new, hn.turn.trans hT3 (fun k hk e => by have := HRB.out.2.1; omega)⟩
        have HN3 := Lib.hid hn3; have HNO := Lib.hid hno
        have HPM := Lib.hid hperm
        have hll : (leftR es (seen.push p.2)).length + 1 = (leftR es seen).length := by have h := hperm.length_eq; simp only [List.length_cons] at h; omega
        obtain ⟨x, j⟩ := p
        dsimp only at hnx hen hll HPM HI3
        have hnx2 : ∀ ty, (Instr.next (.pointer (some ⟨R, 0, none⟩)) false ty).run Try.prog wr = .ok (.tuple #[.bool true, kv9 x.k, cv x.c]) w3 := fun ty => hnx
        unfold kv9 cv at hnx2 hen
        have HN4 := Lib.hid (((HN3.out.alloc (.cells #[.int .i64 x.k.h, sv9 x.k.a, sv9 x.k.b, sv9 x.k.c, sv9 x.k.d] 44)).alloc (.cells #[.int .i64 x.c.n, .int .i64 x.c.s, .int .i64 x.c.lo, .int .i64 x.c.hi] 53)).alloc (.cells (ER.enc x).toArray 55))
        have HT4 : Hid (Turn (fun _ => False) w3 (((w3.alloc (.cells #[.int .i64 x.k.h, sv9 x.k.a, sv9 x.k.b, sv9 x.k.c, sv9 x.k.d] 44)).alloc (.cells #[.int .i64 x.c.n, .int .i64 x.c.s, .int .i64 x.c.lo, .int .i64 x.c.hi] 53)).alloc (.cells (ER.enc x).toArray 55))) := (((Turn.refl _ w3).alloc _).alloc _).alloc _
        have hx0 := one_row ER 55 ((w3.alloc (.cells #[.int .i64 x.k.h, sv9 x.k.a, sv9 x.k.b, sv9 x.k.c, sv9 x.k.d] 44)).alloc (.cells #[.int .i64 x.c.n, .int .i64 x.c.s, .int .i64 x.c.lo, .int .i64 x.c.hi] 53)) x
        rw [World.size_alloc, World.size_alloc] at hx0
        have HX := Lib.hid hx0
        have hdle : done.length + 1 ≤ es.length := by omega
        clear hn hm hi hp hnx hI3 hT3 hperm hm3 hno hn3 hx0 hw3 hwx hpl hpz
        go_wp2_with (at_builtin; refine wpList_rows11 _ rfl _ _ rfl _ done rfl HN4.out.own _ rfl [x] HX.out (by have := HES.out; simp only [List.length_cons, List.length_nil]; omega) ?_; intro A5 n5 c5 w5 ho ht hn; have HN5 := Lib.hid (HN4.out.step ho ht hn); have HT5 := Lib.hid ht; have HO5 := Lib.hid ho; clear ho ht hn)
        obtain ⟨A6, c6, e6⟩ := HO5.out.shape
        injection e6 with e61 e62 e63
        subst e62
        refine ⟨⟨done ++ [x], seen.push j, HN5.out, ?_, ?_, ?_⟩, ?_⟩
        · exact (HM3.out.turn HT4.out (fun f => f)).turn HT5.out (fun e => by have h1 := HN3.out.new _ e; have h2 := HRB.out.2.2; omega)
        · exact (HI3.out.turn HT4.out (fun f => f)).turn HT5.out (fun e => HNO.out _ e rfl)
        · have h1 := (HPM.out.map (·.1)).append_right done
          rw [List.map_cons] at h1
          refine List.Perm.trans ?_ (h1.symm.trans HP.out)
          rw [← List.append_assoc]
          exact (List.perm_append_singleton x _).trans (List.Perm.refl _)
        · show es.length - (done ++ [x]).length < es.length - done.length
          rw [List.length_append, List.length_singleton]
          omega

end Go.Proofs.Ytklpmajaihmmfaa

/-
  Stage 14: lists of rows, one behind the other.
-/
namespace Go.Proofs.Ytklpmajaihmmfaa
open Go.RowKit Go.Shelf
attribute [local go_sem] Oper.semAt_some wide_fn

set_option maxRecDepth 100000

theorem pre_flat {ls : List (List R11)} {i k : Nat} {x : List R11} {r : R11} (hx : ls[i]? = some x) (hr : x[k]? = some r) :
    ((ls.take i).flatten ++ x.take k) ++ [r] = (ls.take i).flatten ++ x.take (k + 1) ∧ ((ls.take i).flatten ++ x.take k) ++ [r] <+: ls.flatten := by
  have e1 : ((ls.take i).flatten ++ x.take k) ++ [r] = (ls.take i).flatten ++ x.take (k + 1) := by rw [(split_at11 hr).1, List.append_assoc]
  refine ⟨e1, ?_⟩
  rw [e1]
  have h := congrArg List.flatten (split_at11 hx).2
  rw [List.flatten_append, List.flatten_cons] at h
  rw [h]
  refine (List.prefix_append_right_inj _).2 ?_
  exact (List.take_prefix _ _).trans (List.prefix_append _ _)
theorem flat_step {ls : List (List R11)} {i : Nat} {x : List R11} (hx : ls[i]? = some x) : (ls.take i).flatten ++ x.take x.length = (ls.take (i + 1)).flatten := by
  rw [(split_at11 hx).1, List.flatten_append, List.take_length]
  simp

set_option maxHeartbeats 8000000 in
theorem turn_feed14 (n q : Nat) (u : Value) (ls : List (List R11)) (w : World) (hq : Box w q 70 #[u]) (hu : RdS w u ls) (hn : ls.length ≤ 20000) (hl : ls.flatten.length ≤ 20000) (S : Nat → Prop) (hS : ∀ k, S k → w.heap.size ≤ k) :
    Feeds n 48 #[.pointer (some ⟨q, 0, none⟩)] (fun r => #[rv11 r]) S (fun pre y _ => pre ++ [y] <+: ls.flatten) (fun xs => xs = ls.flatten) (fun pre => pre <+: ls.flatten) w := fun l J Jx W hW hlW _ hJ hJx hY h0 => by
  have HU := Lib.hid hu
  have HY := Lib.hid hY; have HJ := Lib.hid hJ
  have HS := Lib.hid hS
  have H0 := Lib.hid h0; have HW := Lib.hid hW
  obtain ⟨A, c, rfl⟩ := hu.shape
  have hc0 := (hq.turn hW (fun f => f)).cell 0
  clear hY hJ hJx hlW h0 hq hW hS hu
  refine calls_depth11 (m := 5) ?_
  refine callsIn_of_wp Try.func48 rfl trivial ?_ rfl
  simp only [Try.ntmps48, List.size_toArray, List.length_cons, List.length_nil, Nat.reduceAdd, Nat.reduceSub, Array.replicate_succ, Array.replicate_zero, List.push_toArray, List.append_toArray, List.nil_append, List.cons_append]
  gi_wp2
  gi_loopw [9] (fun x wr => ∃ i : Nat, x = .int .i64 (i : Int) ∧ i ≤ ls.length ∧ J (ls.take i).flatten wr ∧ Turn (fun _ => False) w wr) (fun x _ => ls.length - (intOf x).toNat)
  case atStart => exact ⟨0, rfl, Nat.zero_le _, H0.out, HW.out⟩
  case round =>
    clear H0 hc0
    obtain ⟨i, rfl, hi, hj, ht⟩ := hrel
    have HJ0 := Lib.hid hj; have HT := Lib.hid ht
    clear hj ht
    by_cases hlt : i < ls.length
    · obtain ⟨x, hx⟩ : ∃ x, ls[i]? = some x := ⟨_, List.getElem?_eq_getElem hlt⟩
      obtain ⟨ad, B, d, rfl, hrx, hc⟩ := slice_at11 HU.out hx
      have e0 := hc wr HT.out
      have HRX := Lib.hid hrx
      have HXX : Hid (ls[i]? = some x) := hx
      have hil : (i : Int) < ls.length := by omega
      have hxl : x.length ≤ 20000 := by
        have h := congrArg List.length (congrArg List.flatten (split_at11 hx).2)
        rw [List.flatten_append, List.flatten_cons, List.length_append, List.length_append] at h
        omega
      have HI0 : Hid (J ((ls.take i).flatten ++ x.take 0) wr) := by rw [List.take_zero, List.append_nil]; exact HJ0.out
      clear hc hx hrx
      gi_wp2_with fail
      gi_loopw [15] (fun x15 wk => ∃ k : Nat, x15 = .int .i64 (k : Int) ∧ k ≤ x.length ∧ J ((ls.take i).flatten ++ x.take k) wk ∧ Turn (fun _ => False) w wk) (fun x15 _ => x.length - (intOf x15).toNat)
      case atStart => exact ⟨0, rfl, Nat.zero_le _, HI0.out, HT.out⟩
      case round =>
        clear HI0 HJ0 HT e0
        obtain ⟨k, rfl, hk, hj, ht⟩ := hrel
        have HJ0 := Lib.hid hj; have HT := Lib.hid ht
        clear hj ht
        by_cases hlt2 : k < x.length
        · obtain ⟨r, hr⟩ : ∃ r, x[k]? = some r := ⟨_, List.getElem?_eq_getElem hlt2⟩
          obtain ⟨bd, rfl, hcr⟩ := row_at11 HRX.out hr
          have hrw := hcr wr HT.out
          unfold RowAt at hrw
          obtain ⟨a0, a1, a2, a3, a4, a5, a6, a7, a8⟩ := hrw
          have hkl : (k : Int) < x.length := by omega
          have HPR := Lib.hid (pre_flat HXX.out hr)
          have ht1 : Turn (fun _ => False) wr (wr.alloc (.cells (cells11 r) 55)) := (Turn.refl _ wr).alloc _
          have HT1 := Lib.hid ht1
          obtain ⟨fn, tm, asg, bo, hy, hrr⟩ := yield_depth11 (m' := 5 - 1) (HY.out ((ls.take i).flatten ++ x.take k) r (wr.alloc (.cells (cells11 r) 55)) (HJ.out _ _ _ HJ0.out ht1.none) HPR.out.2)
          have HRR := Lib.hid hrr
          clear hcr hr ht1 hrr
          gi_wp2_with fail
          refine HRR.out.mono ?_
          intro e w2 hp
          rcases hp with ⟨rfl, hj2, hk2, -⟩ | ⟨rfl, hx2, -⟩
          · have HJ2 := Lib.hid hj2
            have HK2 := Lib.hid hk2
            clear hj2 hk2
            gi_wp2
            go_roundw
            case rel => exact ⟨k + 1, by go_num, hlt2, by rw [← HPR.out.1]; exact HJ2.out, (HT.out.trans HT1.out (fun _ _ f => f)).trans HK2.out (fun k hk h => by have := HS.out k h; omega)⟩
            case measure => simp [intOf]; omega
          · have HX2 := Lib.hid hx2
            clear hx2
            gi_wp2
            refine bodyPost_ret (results_none rfl _ _ _) rfl ?_
            exact ⟨⟨_, rfl⟩, .inr ⟨_, HPR.out.2, HX2.out⟩⟩
        · obtain rfl : k = x.length := by omega
          have HJE : Hid (J (ls.take (i + 1)).flatten wr) := by have h := HJ0.out; rw [flat_step HXX.out] at h; exact h
          gi_wp2
          go_roundw
          case rel => exact ⟨i + 1, by go_num, hlt, HJE.out, HT.out⟩
          case measure => simp [intOf]; omega
    · obtain rfl : i = ls.length := by omega
      have HJE : Hid (J ls.flatten wr) := by have h := HJ0.out; rw [List.take_length] at h; exact h
      gi_wp2
      go_end0
      exact ⟨⟨_, rfl⟩, .inl ⟨ls.flatten, rfl, HJE.out⟩⟩

set_option maxHeartbeats 2000000 in
theorem turn_any14 (v : Value) (ls : List (List R11)) (w : World) (h : RdS w v ls) (hn : ls.length ≤ 20000) (hl : ls.flatten.length ≤ 20000) : Calls Try.prog 32 #[v] w fun e w' => Iter14 w ls.flatten e w' := by
  have HR := Lib.hid h
  have HL : Hid (ls.length ≤ 20000 ∧ ls.flatten.length ≤ 20000) := ⟨hn, hl⟩
  obtain ⟨A, c, rfl⟩ := h.shape
  clear h hl hn
  go_enter Try.func32, Try.ntmps32
  go_wp2
  go_ret
  have ht : Turn (fun _ => False) w (w.alloc (.cells #[.slice A ls.length c] 70)) := (Turn.refl _ w).alloc _
  exact ⟨_, rfl, ⟨_, _, rfl, enters_of Try.func48 (by kernel_rfl) rfl, fun n S hS => turn_feed14 n _ _ ls _ (Box.new w _ _) (HR.out.later ht) HL.out.1 HL.out.2 S hS⟩, ht⟩

end Go.Proofs.Ytklpmajaihmmfaa

/-
  Stage 14: the program's Facts, Seg, Join.
-/
namespace Go.Proofs.Ytklpmajaihmmfaa
open Go.RowKit

set_option maxRecDepth 100000

theorem grpR_range (q : Q13) (L : List R11) : grpR q (rangeR L q.lo q.hi) = grpR q L := by
  unfold grpR rangeR
  rw [List.filter_filter]
  congr 1
  refine List.filter_congr fun r _ => ?_
  unfold matchB inH
  cases decide (q.lo ≤ r.k.h) <;> cases decide (r.k.h < q.hi) <;> simp

set_option maxHeartbeats 8000000 in
theorem facts_any14 (q : Q13) (v : Value) (l : List F9) (w : World) (hv : RdE EF w v l) (hf : ∀ f ∈ l, fit f.v = true) (hl : l.length ≤ 20000) :
    Calls Try.prog 14 #[qv13 q, v] w fun e w' => Put11 w (foldF q l) e w' := by
  have HV := Lib.hid hv
  obtain ⟨A, c, rfl⟩ := hv.shape
  unfold qv13
  obtain ⟨w0, hw0⟩ : ∃ w0, w0 = w.alloc (.cells (cells13 q) 25) := ⟨_, rfl⟩
  obtain ⟨b, hb⟩ : ∃ b, b = w.heap.size := ⟨_, rfl⟩
  have HB0 : Hid (Box w0 b 25 (cells13 q)) := by rw [hw0, hb]; exact Box.new w _ _
  have HT0 : Hid (Turn (fun _ => False) w w0) := by rw [hw0]; exact (Turn.refl _ w).alloc _
  have HQ : Hid (∀ W, Turn (fun _ => False) w0 W → CQ13 W b q) := fun W ht => cq_box13 (HB0.out.turn ht (fun f => f))
  have HC1 : Hid (∀ W, Turn (fun _ => False) w0 W → Calls Try.prog 30 #[.slice A l.length c] W fun e w' => Iter14 W (l.map rowF) e w') := fun W ht => single_any14 _ l W (HV.out.later (HT0.out.trans ht (fun _ _ f => f))) hl
  have HOK : Hid (∀ r ∈ grpR q (l.map rowF), okC r.c) := grpR_ok fun r hr => by obtain ⟨f, hfl, rfl⟩ := List.mem_map.1 hr; exact okC_of (hf f hfl)
  have HLE : Hid ((grpR q (l.map rowF)).length ≤ 20000) := Nat.le_trans (grpR_len _ _) (by rw [List.length_map]; exact hl)
  have HFF : Hid (foldF q l = putsR [] (grpR q (l.map rowF))) := rfl
  have HW0 := Lib.hid hw0
  have HBB := Lib.hid hb
  generalize hL : l.map rowF = L at *
  clear hv hf hw0 hb hL
  go_enter Try.func14, Try.ntmps14
  go_wp2_with fail
  rw [← HW0.out, ← HBB.out]
  refine drawn_region (fun W => Turn (fun _ => False) w0 W) [] (by kernel_rfl) ?_
  have hS0 : Turn (fun _ => False) w0 (World.drew w0) := (Turn.refl _ w0).drew
  generalize World.drew w0 = wd at *
  refine drawn_take 0 6 (.agg (cells13 q)) rfl rfl (by kernel_rfl) (by kernel_rfl) (by kernel_rfl) (by kernel_rfl) (fun _ _ _ h => h) (by rfl) (by assumption) (by intro w hSw; obtain ⟨b0, b1, b2, b3, b4, b5, b6, b7, b8, b9, b10, b11, b12, b13⟩ := HQ.out w hSw; clear hSw; go_simp) ?_
  try simp only [List.setIfInBounds_toArray, List.set_cons_zero, List.set_cons_succ]
  refine drawn_take 1 7 (.slice A l.length c) rfl rfl (by kernel_rfl) (by kernel_rfl) (by kernel_rfl) (by kernel_rfl) (fun _ _ _ h => h) (by rfl) (by assumption) (by intro w hSw; obtain hS1 := hSw; go_simp) ?_
  try simp only [List.setIfInBounds_toArray, List.set_cons_zero, List.set_cons_succ]
  refine drawn_any [2] (by kernel_rfl) (by simp) ?_
  refine drawn_cons rfl (fun K hK => ?_) drawn_nil
  go_simp
  refine (HC1.out _ hS0).mono ?_
  rintro e w2 ⟨v2, rfl, hi2, t2⟩
  have hS2 := hS0.trans t2 (fun _ _ f => f)
  have HI2 := Lib.hid hi2
  obtain ⟨g2, lb2, rfl, -⟩ := hi2
  refine hK.out _ _ _ hS2 ?_
  clear hK K hS0 t2
  try simp only [List.setIfInBounds_toArray, List.set_cons_zero, List.set_cons_succ]
  refine drawn_any [3] (by kernel_rfl) (by simp) ?_
  refine drawn_cons rfl (fun K hK => ?_) drawn_nil
  go_simp
  refine (asked_any14 q _ L w2 HI2.out).mono ?_
  rintro e w3 ⟨v3, rfl, hi3, t3⟩
  have hS3 := hS2.trans t3 (fun _ _ f => f)
  have HI3 := Lib.hid hi3
  obtain ⟨g3, lb3, rfl, -⟩ := hi3
  refine hK.out _ _ _ hS3 ?_
  clear hK K hS2 t3
  try simp only [List.setIfInBounds_toArray, List.set_cons_zero, List.set_cons_succ]
  refine drawn_any [4] (by kernel_rfl) (by simp) ?_
  refine drawn_cons rfl (fun K hK => ?_) drawn_nil
  go_simp
  refine (gather_any14 _ _ w3 HI3.out HOK.out HLE.out).mono ?_
  rintro e w4 ⟨u, rfl, hu, t4⟩
  have hS4 := hS3.trans t4 (fun _ _ f => f)
  have HU := Lib.hid hu
  obtain ⟨B5, d5, rfl⟩ := hu.shape
  generalize putsR [] (grpR q L) = o at *
  obtain ⟨nf, hnf⟩ : ∃ nf : Int, nf = if o.isSome then 0 else 6 := ⟨_, rfl⟩
  rw [← hnf]
  have HNF := Lib.hid hnf
  refine hK.out _ _ _ hS4 ?_
  clear hK K hS3 t4 hnf hu
  try simp only [List.setIfInBounds_toArray, List.set_cons_zero, List.set_cons_succ]
  refine drawn_take 5 11 (.slice B5 (o.getD []).length d5) rfl rfl (by kernel_rfl) (by kernel_rfl) (by kernel_rfl) (by kernel_rfl) (fun _ _ _ h => h) (by rfl) (by assumption) (by intro w hSw; go_simp) ?_
  try simp only [List.setIfInBounds_toArray, List.set_cons_zero, List.set_cons_succ]
  refine drawn_take 6 12 (.int .i64 nf) rfl rfl (by kernel_rfl) (by kernel_rfl) (by kernel_rfl) (by kernel_rfl) (fun _ _ _ h => h) (by rfl) (by assumption) (by intro w hSw; go_simp) ?_
  try simp only [List.setIfInBounds_toArray, List.set_cons_zero, List.set_cons_succ]
  refine drawn_take 7 4 (.slice B5 (o.getD []).length d5) rfl rfl (by kernel_rfl) (by kernel_rfl) (by kernel_rfl) (by kernel_rfl) (fun _ _ _ h => h) (by rfl) (by assumption) (by intro w hSw; go_simp) ?_
  try simp only [List.setIfInBounds_toArray, List.set_cons_zero, List.set_cons_succ]
  refine drawn_last1 8 5 (.int .i64 nf) rfl rfl (by kernel_rfl) (by kernel_rfl) (by rfl) (by intro w; go_simp) hS4 ?_
  try simp only [List.setIfInBounds_toArray, List.set_cons_zero, List.set_cons_succ]
  have HT4 := Lib.hid (HT0.out.trans hS4 (fun _ _ f => f))
  clear hS4
  go_wp2
  go_ret2
  rw [HFF.out]
  exact ⟨_, by rw [HNF.out]; rfl, HU.out, HT4.out⟩

set_option maxHeartbeats 8000000 in
theorem seg_any14 (q : Q13) (s : Value) (L : List R11) (w : World) (h : SV11 w s L) :
    Calls Try.prog 10 #[qv13 q, s] w fun e w' => Put11 w (foldR q L) e w' := by
  have HV := Lib.hid h
  obtain ⟨p, rfl⟩ := h.ptr
  unfold qv13
  obtain ⟨w0, hw0⟩ : ∃ w0, w0 = w.alloc (.cells (cells13 q) 25) := ⟨_, rfl⟩
  obtain ⟨b, hb⟩ : ∃ b, b = w.heap.size := ⟨_, rfl⟩
  have HB0 : Hid (Box w0 b 25 (cells13 q)) := by rw [hw0, hb]; exact Box.new w _ _
  have HT0 : Hid (Turn (fun _ => False) w w0) := by rw [hw0]; exact (Turn.refl _ w).alloc _
  have HQ : Hid (∀ W, Turn (fun _ => False) w0 W → CQ13 W b q) := fun W ht => cq_box13 (HB0.out.turn ht (fun f => f))
  have HC1 : Hid (∀ W, Turn (fun _ => False) w0 W → Calls Try.prog 26 #[.pointer p, .int .i64 q.lo, .int .i64 q.hi] W fun e w' => Iter14 W (rangeR L q.lo q.hi) e w') := fun W ht => (range_any11 _ L q.lo q.hi W (HV.out.later (HT0.out.trans ht (fun _ _ f => f)))).mono fun _ _ h => h.iter
  have HOK : Hid (∀ r ∈ grpR q (rangeR L q.lo q.hi), okC r.c) := by show ∀ r ∈ _, _; rw [grpR_range]; exact grpR_ok h.right.2.1
  have HLE : Hid ((grpR q (rangeR L q.lo q.hi)).length ≤ 20000) := by show _ ≤ _; rw [grpR_range]; exact Nat.le_trans (grpR_len _ _) h.right.2.2
  have HFF : Hid (foldR q L = putsR [] (grpR q (rangeR L q.lo q.hi))) := by show _ = _; rw [grpR_range]; rfl
  have HW0 := Lib.hid hw0
  have HBB := Lib.hid hb
  generalize rangeR L q.lo q.hi = G at *
  clear h hw0 hb
  go_enter Try.func10, Try.ntmps10
  go_wp2_with fail
  rw [← HW0.out, ← HBB.out]
  refine drawn_region (fun W => Turn (fun _ => False) w0 W) [] (by kernel_rfl) ?_
  have hS0 : Turn (fun _ => False) w0 (World.drew w0) := (Turn.refl _ w0).drew
  generalize World.drew w0 = wd at *
  refine drawn_take 0 6 (.agg (cells13 q)) rfl rfl (by kernel_rfl) (by kernel_rfl) (by kernel_rfl) (by kernel_rfl) (fun _ _ _ h => h) (by rfl) (by assumption) (by intro w hSw; obtain ⟨b0, b1, b2, b3, b4, b5, b6, b7, b8, b9, b10, b11, b12, b13⟩ := HQ.out w hSw; clear hSw; go_simp) ?_
  try simp only [List.setIfInBounds_toArray, List.set_cons_zero, List.set_cons_succ]
  refine drawn_take 1 7 (.pointer p) rfl rfl (by kernel_rfl) (by kernel_rfl) (by kernel_rfl) (by kernel_rfl) (fun _ _ _ h => h) (by rfl) (by assumption) (by intro w hSw; obtain hS1 := hSw; go_simp) ?_
  try simp only [List.setIfInBounds_toArray, List.set_cons_zero, List.set_cons_succ]
  refine drawn_take 2 8 (.pointer (some ⟨b, 0, none⟩)) rfl rfl (by kernel_rfl) (by kernel_rfl) (by kernel_rfl) (by kernel_rfl) (fun _ _ _ h => h) (by rfl) (by assumption) (by intro w hSw; obtain hS1 := hSw; go_simp) ?_
  try simp only [List.setIfInBounds_toArray, List.set_cons_zero, List.set_cons_succ]
  refine drawn_take 3 9 (.int .i64 q.lo) rfl rfl (by kernel_rfl) (by kernel_rfl) (by kernel_rfl) (by kernel_rfl) (fun _ _ _ h => h) (by rfl) (by assumption) (by intro w hSw; have b0 := (HQ.out w hSw).1; clear hSw; go_simp) ?_
  try simp only [List.setIfInBounds_toArray, List.set_cons_zero, List.set_cons_succ]
  refine drawn_take 4 10 (.pointer (some ⟨b, 1, none⟩)) rfl rfl (by kernel_rfl) (by kernel_rfl) (by kernel_rfl) (by kernel_rfl) (fun _ _ _ h => h) (by rfl) (by assumption) (by intro w hSw; obtain hS1 := hSw; go_simp) ?_
  try simp only [List.setIfInBounds_toArray, List.set_cons_zero, List.set_cons_succ]
  refine drawn_take 5 11 (.int .i64 q.hi) rfl rfl (by kernel_rfl) (by kernel_rfl) (by kernel_rfl) (by kernel_rfl) (fun _ _ _ h => h) (by rfl) (by assumption) (by intro w hSw; have b1 := (HQ.out w hSw).2.1; clear hSw; go_simp) ?_
  try simp only [List.setIfInBounds_toArray, List.set_cons_zero, List.set_cons_succ]
  refine drawn_any [6] (by kernel_rfl) (by simp) ?_
  refine drawn_cons rfl (fun K hK => ?_) drawn_nil
  go_simp
  refine (HC1.out _ hS0).mono ?_
  rintro e w2 ⟨v2, rfl, hi2, t2⟩
  have hS2 := hS0.trans t2 (fun _ _ f => f)
  have HI2 := Lib.hid hi2
  obtain ⟨g2, lb2, rfl, -⟩ := hi2
  refine hK.out _ _ _ hS2 ?_
  clear hK K hS0 t2
  try simp only [List.setIfInBounds_toArray, List.set_cons_zero, List.set_cons_succ]
  refine drawn_any [7] (by kernel_rfl) (by simp) ?_
  refine drawn_cons rfl (fun K hK => ?_) drawn_nil
  go_simp
  refine (asked_any14 q _ G w2 HI2.out).mono ?_
  rintro e w3 ⟨v3, rfl, hi3, t3⟩
  have hS3 := hS2.trans t3 (fun _ _ f => f)
  have HI3 := Lib.hid hi3
  obtain ⟨g3, lb3, rfl, -⟩ := hi3
  refine hK.out _ _ _ hS3 ?_
  clear hK K hS2 t3
  try simp only [List.setIfInBounds_toArray, List.set_cons_zero, List.set_cons_succ]
  refine drawn_any [8] (by kernel_rfl) (by simp) ?_
  refine drawn_cons rfl (fun K hK => ?_) drawn_nil
  go_simp
  refine (gather_any14 _ _ w3 HI3.out HOK.out HLE.out).mono ?_
  rintro e w4 ⟨u, rfl, hu, t4⟩
  have hS4 := hS3.trans t4 (fun _ _ f => f)
  have HU := Lib.hid hu
  obtain ⟨B5, d5, rfl⟩ := hu.shape
  generalize putsR [] (grpR q G) = o at *
  obtain ⟨nf, hnf⟩ : ∃ nf : Int, nf = if o.isSome then 0 else 6 := ⟨_, rfl⟩
  rw [← hnf]
  have HNF := Lib.hid hnf
  refine hK.out _ _ _ hS4 ?_
  clear hK K hS3 t4 hnf hu
  try simp only [List.setIfInBounds_toArray, List.set_cons_zero, List.set_cons_succ]
  refine drawn_take 9 15 (.slice B5 (o.getD []).length d5) rfl rfl (by kernel_rfl) (by kernel_rfl) (by kernel_rfl) (by kernel_rfl) (fun _ _ _ h => h) (by rfl) (by assumption) (by intro w hSw; go_simp) ?_
  try simp only [List.setIfInBounds_toArray, List.set_cons_zero, List.set_cons_succ]
  refine drawn_take 10 16 (.int .i64 nf) rfl rfl (by kernel_rfl) (by kernel_rfl) (by kernel_rfl) (by kernel_rfl) (fun _ _ _ h => h) (by rfl) (by assumption) (by intro w hSw; go_simp) ?_
  try simp only [List.setIfInBounds_toArray, List.set_cons_zero, List.set_cons_succ]
  refine drawn_take 11 4 (.slice B5 (o.getD []).length d5) rfl rfl (by kernel_rfl) (by kernel_rfl) (by kernel_rfl) (by kernel_rfl) (fun _ _ _ h => h) (by rfl) (by assumption) (by intro w hSw; go_simp) ?_
  try simp only [List.setIfInBounds_toArray, List.set_cons_zero, List.set_cons_succ]
  refine drawn_last1 12 5 (.int .i64 nf) rfl rfl (by kernel_rfl) (by kernel_rfl) (by rfl) (by intro w; go_simp) hS4 ?_
  try simp only [List.setIfInBounds_toArray, List.set_cons_zero, List.set_cons_succ]
  have HT4 := Lib.hid (HT0.out.trans hS4 (fun _ _ f => f))
  clear hS4
  go_wp2
  go_ret2
  rw [HFF.out]
  exact ⟨_, by rw [HNF.out]; rfl, HU.out, HT4.out⟩

set_option maxHeartbeats 8000000 in
theorem join_any14 (v : Value) (ls : List (List R11)) (w : World) (hv : RdS w v ls) (hok : ∀ x ∈ ls, ∀ r ∈ x, okC r.c) (hn : ls.length ≤ 20000) (hl : ls.flatten.length ≤ 20000) :
    Calls Try.prog 16 #[v] w fun e w' => Put11 w (mergeR ls) e w' := by
  have HC1 := Lib.hid (turn_any14 v ls w hv hn hl)
  have HOK : Hid (∀ r ∈ ls.flatten, okC r.c) := fun r hr => by
    obtain ⟨x, hx, hr⟩ := List.mem_flatten.1 hr
    exact hok x hx r hr
  have HLE := Lib.hid hl
  have HFF : Hid (mergeR ls = putsR [] ls.flatten) := rfl
  obtain ⟨A, c, rfl⟩ := hv.shape
  clear hv hok hn hl
  go_enter Try.func16, Try.ntmps16
  go_wp2_with fail
  refine HC1.out.mono ?_
  rintro e w2 ⟨v2, rfl, hi2, t2⟩
  have HT2 := Lib.hid t2
  have HI2 := Lib.hid hi2
  obtain ⟨g2, lb2, rfl, -⟩ := hi2
  clear t2 HC1
  go_wp2_with fail
  refine (gather_any14 _ _ w2 HI2.out HOK.out HLE.out).mono ?_
  rintro e w4 ⟨u, rfl, hu, t4⟩
  have HT4 := Lib.hid (HT2.out.trans t4 (fun _ _ f => f))
  have HU := Lib.hid hu
  obtain ⟨B5, d5, rfl⟩ := hu.shape
  generalize putsR [] ls.flatten = o at *
  obtain ⟨nf, hnf⟩ : ∃ nf : Int, nf = if o.isSome then 0 else 6 := ⟨_, rfl⟩
  rw [← hnf]
  have HNF := Lib.hid hnf
  clear t4 hnf hu
  go_wp2
  go_ret2
  rw [HFF.out]
  exact ⟨_, by rw [HNF.out]; rfl, HU.out, HT4.out⟩

end Go.Proofs.Ytklpmajaihmmfaa

/-
  Stage 13: the document's Check, Matches, Group; which queries are light.
-/
namespace Go.Proofs.Ytklpmajaihmmfaa
open Go.RowKit

set_option maxRecDepth 100000

set_option maxHeartbeats 16000000 in
theorem ref_check13 (q : Q13) (n : Int) (w : World) : Calls Try.prog 18 #[qv13 q, .int .i64 n] w fun e w' => e = .returned (.int .i64 (chkQ q n)) ∧ Turn (fun _ => False) w w' := by
  unfold qv13
  obtain ⟨w0, hw0⟩ : ∃ w0, w0 = w.alloc (.cells (cells13 q) 25) := ⟨_, rfl⟩
  have HT0 : Hid (Turn (fun _ => False) w w0) := by rw [hw0]; exact (Turn.refl _ w).alloc _
  have hb0 : Box w0 w.heap.size 25 (cells13 q) := by rw [hw0]; exact Box.new w _ _
  have HB0 := Lib.hid hb0
  obtain ⟨c0, c1, -⟩ := box_query13 hb0
  have HW := Lib.hid hw0
  clear hw0 hb0
  by_cases hn : 1 ≤ n ∧ n ≤ 4
  · by_cases hr : 0 ≤ q.lo ∧ q.lo ≤ q.hi ∧ q.hi ≤ 16777217
    · have HN := Lib.hid hn
      have HR := Lib.hid hr
      obtain ⟨n1, n2⟩ := hn
      obtain ⟨r1, r2, r3⟩ := hr
      have HBAD : Hid (okQ n q = false → chkQ q n = 4) := fun h => chkQ_text HN.out HR.out h
      have HGOOD : Hid (okQ n q = true → chkQ q n = 0) := fun h => chkQ_ok HN.out HR.out h
      go_enter Try.func18, Try.ntmps18
      go_wp2_with fail
      rw [← HW.out]
      clear c0 c1
      go_loopw [5] (fun x5 wr => wr = w0 ∧ ∃ i : Nat, x5 = .int .i64 (i : Int) ∧ i ≤ 4 ∧ ∀ k, k < i → okD n k (q.g.nth k) (q.h.nth k) (q.f.nth k) = true) (fun x5 _ => 4 - (intOf x5).toNat)
      case atStart => exact ⟨rfl, 0, rfl, Nat.zero_le _, fun k hk => absurd hk (Nat.not_lt_zero k)⟩
      case round =>
        obtain ⟨rfl, i, rfl, hi, he⟩ := hrel
        have HE := Lib.hid he
        clear he
        by_cases hlt : i < 4
        · have e1 := (HB0.out.cell (2 + i)).trans (q_group13 q hlt)
          have e2 := (HB0.out.cell (6 + i)).trans (q_has13 q hlt)
          have e3 := (HB0.out.cell (10 + i)).trans (q_text13 q hlt)
          have hil : (i : Int) < 4 := by omega
          have HNOT : Hid (okD n i (q.g.nth i) (q.h.nth i) (q.f.nth i) = false → chkQ q n = 4) := fun h => HBAD.out (okQ_not hlt h)
          have HSTEP : Hid (okD n i (q.g.nth i) (q.h.nth i) (q.f.nth i) = true → ∀ k, k < i + 1 → okD n k (q.g.nth k) (q.h.nth k) (q.f.nth k) = true) := fun h k hk => by
            by_cases ek : k = i
            · rw [ek]; exact h
            · exact HE.out k (by omega)
          unfold sv9 at e3
          generalize q.g.nth i = G at e1 HNOT HSTEP
          generalize q.h.nth i = H at e2 HNOT HSTEP
          generalize q.f.nth i = T at e3 HNOT HSTEP
          clear HBAD HGOOD HE HN HR
          by_cases hin : (i : Int) < n
          · have hnn : ¬ (n ≤ (i : Int)) := by omega
            cases T with
            | nil =>
              cases H with
              | false =>
                cases G with
                | false =>
                  have HK := Lib.hid (HSTEP.out (by simp [okD, hnn]))
                  clear HSTEP HNOT
                  go_wp2_with fail
                  go_roundw
                  case rel => exact ⟨trivial, i + 1, by go_num, hlt, HK.out⟩
                  case measure => simp [intOf]; omega
                | true =>
                  have HK := Lib.hid (HSTEP.out (by simp [okD, hnn]))
                  clear HSTEP HNOT
                  go_wp2_with fail
                  go_roundw
                  case rel => exact ⟨trivial, i + 1, by go_num, hlt, HK.out⟩
                  case measure => simp [intOf]; omega
              | true =>
                cases G with
                | false =>
                  have HK := Lib.hid (HSTEP.out (by simp [okD, hnn]))
                  clear HSTEP HNOT
                  go_wp2_with fail
                  go_roundw
                  case rel => exact ⟨trivial, i + 1, by go_num, hlt, HK.out⟩
                  case measure => simp [intOf]; omega
                | true =>
                  have HK := Lib.hid (HSTEP.out (by simp [okD, hnn]))
                  clear HSTEP HNOT
                  go_wp2_with fail
                  go_roundw
                  case rel => exact ⟨trivial, i + 1, by go_num, hlt, HK.out⟩
                  case measure => simp [intOf]; omega
            | cons t T =>
              by_cases hlen : 16 < T.length + 1
              · have hli : (16 : Int) < (T.length : Int) + 1 := by omega
                cases H with
                | false =>
                  cases G with
                  | false =>
                    have HK := Lib.hid (HNOT.out (by simp [okD, hnn, hlen]))
                    clear HSTEP HNOT
                    go_wp2_with fail
                    go_ret
                    rw [HK.out]
                    exact ⟨rfl, HT0.out⟩
                  | true =>
                    have HK := Lib.hid (HNOT.out (by simp [okD, hnn, hlen]))
                    clear HSTEP HNOT
                    go_wp2_with fail
                    go_ret
                    rw [HK.out]
                    exact ⟨rfl, HT0.out⟩
                | true =>
                  cases G with
                  | false =>
                    have HK := Lib.hid (HNOT.out (by simp [okD, hnn, hlen]))
                    clear HSTEP HNOT
                    go_wp2_with fail
                    go_ret
                    rw [HK.out]
                    exact ⟨rfl, HT0.out⟩
                  | true =>
                    have HK := Lib.hid (HNOT.out (by simp [okD, hnn, hlen]))
                    clear HSTEP HNOT
                    go_wp2_with fail
                    go_ret
                    rw [HK.out]
                    exact ⟨rfl, HT0.out⟩
              · have hli : ¬ ((16 : Int) < (T.length : Int) + 1) := by omega
                cases H with
                | false =>
                  cases G with
                  | false =>
                    have HK := Lib.hid (HNOT.out (by simp [okD, hnn, hlen]))
                    clear HSTEP HNOT
                    go_wp2_with fail
                    go_ret
                    rw [HK.out]
                    exact ⟨rfl, HT0.out⟩
                  | true =>
                    have HK := Lib.hid (HNOT.out (by simp [okD, hnn, hlen]))
                    clear HSTEP HNOT
                    go_wp2_with fail
                    go_ret
                    rw [HK.out]
                    exact ⟨rfl, HT0.out⟩
                | true =>
                  cases G with
                  | false =>
                    have HK := Lib.hid (HSTEP.out (by simp [okD, hnn]; omega))
                    clear HSTEP HNOT
                    go_wp2_with fail
                    go_roundw
                    case rel => exact ⟨trivial, i + 1, by go_num, hlt, HK.out⟩
                    case measure => simp [intOf]; omega
                  | true =>
                    have HK := Lib.hid (HSTEP.out (by simp [okD, hnn]; omega))
                    clear HSTEP HNOT
                    go_wp2_with fail
                    go_roundw
                    case rel => exact ⟨trivial, i + 1, by go_num, hlt, HK.out⟩
                    case measure => simp [intOf]; omega
          · have hnn : n ≤ (i : Int) := by omega
            cases T with
            | nil =>
              cases H with
              | false =>
                cases G with
                | false =>
                  have HK := Lib.hid (HSTEP.out (by simp [okD, hnn]))
                  clear HSTEP HNOT
                  go_wp2_with fail
                  go_roundw
                  case rel => exact ⟨trivial, i + 1, by go_num, hlt, HK.out⟩
                  case measure => simp [intOf]; omega
                | true =>
                  have HK := Lib.hid (HNOT.out (by simp [okD, hnn]))
                  clear HSTEP HNOT
                  go_wp2_with fail
                  go_ret
                  rw [HK.out]
                  exact ⟨rfl, HT0.out⟩
              | true =>
                cases G with
                | false =>
                  have HK := Lib.hid (HNOT.out (by simp [okD, hnn]))
                  clear HSTEP HNOT
                  go_wp2_with fail
                  go_ret
                  rw [HK.out]
                  exact ⟨rfl, HT0.out⟩
                | true =>
                  have HK := Lib.hid (HNOT.out (by simp [okD, hnn]))
                  clear HSTEP HNOT
                  go_wp2_with fail
                  go_ret
                  rw [HK.out]
                  exact ⟨rfl, HT0.out⟩
            | cons t T =>
              by_cases hlen : 16 < T.length + 1
              · have hli : (16 : Int) < (T.length : Int) + 1 := by omega
                cases H with
                | false =>
                  cases G with
                  | false =>
                    have HK := Lib.hid (HNOT.out (by simp [okD, hnn, hlen]))
                    clear HSTEP HNOT
                    go_wp2_with fail
                    go_ret
                    rw [HK.out]
                    exact ⟨rfl, HT0.out⟩
                  | true =>
                    have HK := Lib.hid (HNOT.out (by simp [okD, hnn, hlen]))
                    clear HSTEP HNOT
                    go_wp2_with fail
                    go_ret
                    rw [HK.out]
                    exact ⟨rfl, HT0.out⟩
                | true =>
                  cases G with
                  | false =>
                    have HK := Lib.hid (HNOT.out (by simp [okD, hnn, hlen]))
                    clear HSTEP HNOT
                    go_wp2_with fail
                    go_ret
                    rw [HK.out]
                    exact ⟨rfl, HT0.out⟩
                  | true =>
                    have HK := Lib.hid (HNOT.out (by simp [okD, hnn, hlen]))
                    clear HSTEP HNOT
                    go_wp2_with fail
                    go_ret
                    rw [HK.out]
                    exact ⟨rfl, HT0.out⟩
              · have hli : ¬ ((16 : Int) < (T.length : Int) + 1) := by omega
                cases H with
                | false =>
                  cases G with
                  | false =>
                    have HK := Lib.hid (HNOT.out (by simp [okD, hnn, hlen]))
                    clear HSTEP HNOT
                    go_wp2_with fail
                    go_ret
                    rw [HK.out]
                    exact ⟨rfl, HT0.out⟩
                  | true =>
                    have HK := Lib.hid (HNOT.out (by simp [okD, hnn, hlen]))
                    clear HSTEP HNOT
                    go_wp2_with fail
                    go_ret
                    rw [HK.out]
                    exact ⟨rfl, HT0.out⟩
                | true =>
                  cases G with
                  | false =>
                    have HK := Lib.hid (HNOT.out (by simp [okD, hnn, hlen]))
                    clear HSTEP HNOT
                    go_wp2_with fail
                    go_ret
                    rw [HK.out]
                    exact ⟨rfl, HT0.out⟩
                  | true =>
                    have HK := Lib.hid (HNOT.out (by simp [okD, hnn, hlen]))
                    clear HSTEP HNOT
                    go_wp2_with fail
                    go_ret
                    rw [HK.out]
                    exact ⟨rfl, HT0.out⟩
        · obtain rfl : i = 4 := by omega
          have HK := Lib.hid (HGOOD.out (okQ_iff.2 HE.out))
          go_wp2
          go_ret
          rw [HK.out]
          exact ⟨rfl, HT0.out⟩
    · rw [chkQ_range hn hr]
      obtain ⟨n1, n2⟩ := hn
      by_cases r1 : q.lo < 0
      · clear hr
        go_enter Try.func18, Try.ntmps18
        go_wp2_with fail
        rw [← HW.out]
        go_ret
        exact ⟨rfl, HT0.out⟩
      · by_cases r2 : 16777217 < q.hi
        · clear hr
          go_enter Try.func18, Try.ntmps18
          go_wp2_with fail
          rw [← HW.out]
          go_ret
          exact ⟨rfl, HT0.out⟩
        · have r3 : q.hi < q.lo := by omega
          clear hr
          go_enter Try.func18, Try.ntmps18
          go_wp2_with fail
          rw [← HW.out]
          go_ret
          exact ⟨rfl, HT0.out⟩
  · rw [chkQ_dims hn]
    by_cases n1 : n < 1
    · clear hn
      go_enter Try.func18, Try.ntmps18
      go_wp2_with fail
      rw [← HW.out]
      go_ret
      exact ⟨rfl, HT0.out⟩
    · have n2 : 4 < n := by omega
      clear hn
      go_enter Try.func18, Try.ntmps18
      go_wp2_with fail
      rw [← HW.out]
      go_ret
      exact ⟨rfl, HT0.out⟩

end Go.Proofs.Ytklpmajaihmmfaa

/-
  Stage 13, plain: queries as bytes, and read; there and back.
-/
namespace Go.Proofs.Ytklpmajaihmmfaa
open Go.RowKit

/-- A flag read in a state, and the state behind it. -/
def sFlag (s : RS9) : Bool := if s.2 = 0 then (rdFlag s.1).1 else false
def sFlag' (s : RS9) : RS9 := if s.2 = 0 then (s.1.drop (rdFlag s.1).2.2, (rdFlag s.1).2.1) else s
theorem rdFlag_zero {l : List UInt8} (h : (rdFlag l).2.1 ≠ 0) : (rdFlag l).1 = false := by
  cases l with
  | nil => rfl
  | cons b t =>
    have e : rdFlag (b :: t) = if 1 < b.toNat then (false, 4, 1) else (b.toNat == 1, 0, 1) := rfl
    rw [e] at h ⊢
    by_cases hb : 1 < b.toNat
    · rw [if_pos hb]
    · rw [if_neg hb] at h
      exact absurd rfl h
theorem enc_flag (b : Bool) : enc b.toNat = [if b then 1 else 0] := by
  cases b
  · rw [show enc false.toNat = [low 0] from enc_small 0 (by omega)]; rfl
  · rw [show enc true.toNat = [low 1] from enc_small 1 (by omega)]; rfl
theorem flag_back (b : Bool) (r : List UInt8) : sFlag (enc b.toNat ++ r, 0) = b ∧ sFlag' (enc b.toNat ++ r, 0) = (r, 0) := by
  rw [enc_flag]
  cases b <;> exact ⟨rfl, rfl⟩
theorem flag_there {s : RS9} (h : (sFlag' s).2 = 0) : s.2 = 0 ∧ s.1 = enc (sFlag s).toNat ++ (sFlag' s).1 := by
  unfold sFlag sFlag' at *
  by_cases hs : s.2 = 0
  · rw [if_pos hs] at h
    rw [if_pos hs, if_pos hs]
    refine ⟨hs, ?_⟩
    obtain ⟨l, f⟩ := s
    dsimp only at *
    cases l with
    | nil => cases h
    | cons b t =>
      have e : rdFlag (b :: t) = if 1 < b.toNat then (false, 4, 1) else (b.toNat == 1, 0, 1) := rfl
      rw [e] at h ⊢
      by_cases hb : 1 < b.toNat
      · rw [if_pos hb] at h
        cases h
      · rw [if_neg hb, enc_flag]
        by_cases h1 : b.toNat = 1
        · have e : b = 1 := UInt8.toNat_inj.1 h1
          subst e
          rfl
        · have e : b = 0 := UInt8.toNat_inj.1 (show b.toNat = 0 by omega)
          subst e
          rfl
  · rw [if_neg hs] at h
    exact absurd h hs

/-- A dimension's bytes; those of the first ones; a query's. -/
def dimB13 (g h : Bool) (t : List UInt8) : List UInt8 := enc g.toNat ++ enc h.toNat ++ (if h then textB t else [])
def dimsB13 (q : Q13) : Nat → List UInt8
  | 0 => []
  | i + 1 => dimsB13 q i ++ dimB13 (q.g.nth i) (q.h.nth i) (q.f.nth i)
def encQ (q : Q13) (n : Nat) : List UInt8 := enc q.lo.toNat ++ enc q.hi.toNat ++ dimsB13 q n
theorem dimB_len13 {g h : Bool} {t : List UInt8} (ht : t.length ≤ 16) : (dimB13 g h t).length ≤ 50 := by
  have h1 := enc_len g.toNat
  have h2 := enc_len h.toNat
  have h3 := enc_len t.length
  unfold dimB13 textB
  cases h <;> simp only [List.length_append, if_true, Bool.false_eq_true, if_false, List.length_nil] <;> omega
theorem dimsB_len13 {q : Q13} (ht : ∀ i, i < 4 → (q.f.nth i).length ≤ 16) : ∀ n, n ≤ 4 → (dimsB13 q n).length ≤ 50 * n
  | 0, _ => Nat.zero_le _
  | n + 1, hn => by
    have ih := dimsB_len13 ht n (by omega)
    have h := dimB_len13 (g := q.g.nth n) (h := q.h.nth n) (ht n (by omega))
    unfold dimsB13
    rw [List.length_append]
    omega
theorem okD_text {n : Int} {i : Nat} {g h : Bool} {t : List UInt8} (hk : okD n i g h t = true) : t.length ≤ 16 := by
  unfold okD at hk
  by_cases h16 : 16 < t.length
  · rw [decide_eq_true h16] at hk
    simp at hk
  · omega
theorem okQ_text {n : Int} {q : Q13} (h : okQ n q = true) (i : Nat) (hi : i < 4) : (q.f.nth i).length ≤ 16 := okD_text (okQ_iff.1 h i hi)
theorem encQ_len {q : Q13} {n : Nat} (hn : n ≤ 4) (ht : ∀ i, i < 4 → (q.f.nth i).length ≤ 16) : (encQ q n).length ≤ 300 := by
  have h1 := enc_len q.lo.toNat
  have h2 := enc_len q.hi.toNat
  have h3 := dimsB_len13 ht n hn
  unfold encQ
  rw [List.length_append, List.length_append]
  omega

/-- What is read in one dimension, and in the first ones. -/
def dimR13 (q : Q13) (i : Nat) (s : RS9) : Q13 × RS9 :=
  if sFlag (sFlag' s) then ({ q with g := q.g.put i (sFlag s), h := q.h.put i true, f := q.f.put i (sText (sFlag' (sFlag' s))) }, sText' (sFlag' (sFlag' s)))
  else ({ q with g := q.g.put i (sFlag s), h := q.h.put i false }, sFlag' (sFlag' s))
def dimsR13 (s : RS9) : Nat → Q13 × RS9
  | 0 => (zeroQ, s)
  | i + 1 => dimR13 (dimsR13 s i).1 i (dimsR13 s i).2
def withH (q : Q13) (lo hi : Int) : Q13 := { q with lo := lo, hi := hi }
/-- What the bytes say. -/
def endQ (q : Q13) (n : Int) : Int × Q13 := if chkQ q n = 0 then (0, q) else (chkQ q n, zeroQ)
def readQ (m : List UInt8) (n : Int) : Int × Q13 :=
  if okDims n then
    if (dimsR13 (sNum' (sNum' (m, 0))) n.toNat).2.2 ≠ 0 then (((dimsR13 (sNum' (sNum' (m, 0))) n.toNat).2.2 : Int), zeroQ)
    else if 0 < (dimsR13 (sNum' (sNum' (m, 0))) n.toNat).2.1.length then (4, zeroQ)
    else if 4611686018427387904 < max (sNum (m, 0)) (sNum (sNum' (m, 0))) then (2, zeroQ)
    else endQ (withH (dimsR13 (sNum' (sNum' (m, 0))) n.toNat).1 (sNum (m, 0)) (sNum (sNum' (m, 0)))) n
  else (1, zeroQ)
theorem readQ_none {m : List UInt8} {n : Int} (h : (readQ m n).1 ≠ 0) : (readQ m n).2 = zeroQ := by
  unfold readQ at h ⊢
  split
  · split
    · rfl
    · split
      · rfl
      · split
        · rfl
        · rename_i h0 h1 h2 h3
          rw [if_pos h0, if_neg h1, if_neg h2, if_neg h3] at h
          unfold endQ at h ⊢
          split
          · rename_i h4
            rw [if_pos h4] at h
            exact absurd rfl h
          · rfl
  · rfl

/-- What has been read of a query, so far. -/
def headQ (q : Q13) : Nat → Q13
  | 0 => zeroQ
  | i + 1 => { headQ q i with g := (headQ q i).g.put i (q.g.nth i), h := (headQ q i).h.put i (q.h.nth i), f := (headQ q i).f.put i (q.f.nth i) }
theorem zero_nth : ∀ i : Nat, zeroQ.g.nth i = false ∧ zeroQ.h.nth i = false ∧ zeroQ.f.nth i = [] := fun i => ⟨V4.nth_fill i, V4.nth_fill i, V4.nth_fill i⟩
theorem headQ_nth (q : Q13) : ∀ n, n ≤ 4 → ∀ i, i < 4 → (headQ q n).g.nth i = (if i < n then q.g.nth i else false) ∧ (headQ q n).h.nth i = (if i < n then q.h.nth i else false) ∧ (headQ q n).f.nth i = (if i < n then q.f.nth i else [])
  | 0, _, i, _ => by simp [headQ, zero_nth]
  | n + 1, hn, i, hi => by
    obtain ⟨h1, h2, h3⟩ := headQ_nth q n (by omega) i hi
    simp only [headQ]
    rw [V4.nth_put (by omega) hi, V4.nth_put (by omega) hi, V4.nth_put (by omega) hi, h1, h2, h3]
    by_cases e : n = i
    · subst e; simp
    · have e2 : (i < n + 1) = (i < n) := by
        rw [eq_iff_iff]
        omega
      simp [e, e2]
theorem headQ_hours (q : Q13) : ∀ n, (headQ q n).lo = 0 ∧ (headQ q n).hi = 0
  | 0 => ⟨rfl, rfl⟩
  | n + 1 => headQ_hours q n
theorem headQ_all {q : Q13} {n : Nat} (hn : n ≤ 4) (ho : okQ (n : Int) q = true) : withH (headQ q n) q.lo q.hi = q := by
  have hp := okQ_iff.1 ho
  obtain ⟨lo, hi, g, h, f⟩ := q
  unfold withH
  have e1 : (headQ ⟨lo, hi, g, h, f⟩ n).g = g := V4.same fun i hi' => by
    rw [(headQ_nth _ n hn i hi').1]
    have := (okD_parts.1 (hp i hi')).1
    by_cases c : i < n
    · rw [if_pos c]
    · rw [if_neg c]; simp only [c, decide_false, Bool.false_eq_true, if_false] at this; exact this.symm
  have e2 : (headQ ⟨lo, hi, g, h, f⟩ n).h = h := V4.same fun i hi' => by
    rw [(headQ_nth _ n hn i hi').2.1]
    have := (okD_parts.1 (hp i hi')).2.1
    by_cases c : i < n
    · rw [if_pos c]
    · rw [if_neg c]; simp only [c, decide_false, Bool.false_eq_true, if_false] at this; exact this.symm
  have e3 : (headQ ⟨lo, hi, g, h, f⟩ n).f = f := V4.same fun i hi' => by
    rw [(headQ_nth _ n hn i hi').2.2]
    have h2 := (okD_parts.1 (hp i hi')).2.1
    have h3 := (okD_parts.1 (hp i hi')).2.2.1
    by_cases c : i < n
    · rw [if_pos c]
    · rw [if_neg c]
      simp only [c, decide_false, Bool.false_eq_true, if_false] at h2
      rw [h2] at h3
      simp only [Bool.false_eq_true, if_false] at h3
      exact h3.symm
  rw [e1, e2, e3]
theorem V4.put_same {A : Type} {v : V4 A} {x : A} {i : Nat} (hi : i < 4) (h : v.nth i = x) : v.put i x = v := V4.same fun j hj => by
  rw [V4.nth_put hi hj]
  split
  · rename_i e; subst e; exact h.symm
  · rfl
theorem dims_back13 {q : Q13} (ht : ∀ i, i < 4 → (q.f.nth i).length ≤ 16) (hz : ∀ i, i < 4 → q.h.nth i = false → q.f.nth i = []) : ∀ n (r : List UInt8), n ≤ 4 → dimsR13 (dimsB13 q n ++ r, 0) n = (headQ q n, (r, 0))
  | 0, r, _ => rfl
  | n + 1, r, hn => by
    have e : dimsB13 q (n + 1) ++ r = dimsB13 q n ++ (enc (q.g.nth n).toNat ++ (enc (q.h.nth n).toNat ++ ((if q.h.nth n then textB (q.f.nth n) else []) ++ r))) := by
      simp only [dimsB13, dimB13, List.append_assoc]
    unfold dimsR13
    rw [e, dims_back13 ht hz n _ (by omega)]
    unfold dimR13
    rw [(flag_back _ _).2, (flag_back _ _).1, (flag_back _ _).1, (flag_back _ _).2]
    cases hh : q.h.nth n with
    | true =>
      rw [if_pos rfl, if_pos rfl, (text_back (ht n (by omega)) r).1, (text_back (ht n (by omega)) r).2]
      simp only [headQ, hh]
    | false =>
      rw [if_neg (by simp), if_neg (by simp)]
      simp only [headQ, hh, hz n (by omega) hh, List.nil_append]
      rw [V4.put_same (v := (headQ q n).f) (by omega) (by rw [(headQ_nth q n (by omega) n (by omega)).2.2, if_neg (by omega)])]
theorem readQ_back {q : Q13} {n : Int} (h : chkQ q n = 0) : readQ (encQ q n.toNat) n = (0, q) := by
  obtain ⟨hn, hr, ho⟩ := chkQ_good h
  obtain ⟨N, rfl⟩ := Int.eq_ofNat_of_zero_le (show 0 ≤ n by omega)
  rw [Int.toNat_natCast]
  have hN : N ≤ 4 := by omega
  obtain ⟨A, hA⟩ := Int.eq_ofNat_of_zero_le hr.1
  obtain ⟨B, hB⟩ := Int.eq_ofNat_of_zero_le (show 0 ≤ q.hi by omega)
  have hAl : A ≤ 16777217 := by omega
  have hBl : B ≤ 16777217 := by omega
  have e : encQ q N = enc A ++ (enc B ++ (dimsB13 q N ++ [])) := by
    unfold encQ
    rw [hA, hB, Int.toNat_natCast, Int.toNat_natCast, List.append_nil, List.append_assoc]
  have hz : ∀ i, i < 4 → q.h.nth i = false → q.f.nth i = [] := fun i hi hh => by
    have := (okD_parts.1 (okQ_iff.1 ho i hi)).2.2.1
    rw [hh] at this
    simpa using this
  have b1 := num_back (n := A) (by show _ < _; omega) (enc B ++ (dimsB13 q N ++ []))
  have b2 := num_back (n := B) (by show _ < _; omega) (dimsB13 q N ++ [])
  have b3 := dims_back13 (okQ_text ho) hz N [] hN
  unfold readQ
  rw [okDims_nat hn, if_pos rfl, Int.toNat_natCast, e, b1.1, b1.2, b2.1, b2.2, b3]
  simp only [ne_eq, not_true_eq_false, if_false, List.length_nil, Nat.lt_irrefl]
  rw [if_neg (by omega)]
  have e2 : withH (headQ q N) (A : Int) (B : Int) = q := by
    have := headQ_all hN ho
    rwa [hA, hB] at this
  rw [e2]
  unfold endQ
  rw [if_pos h]

theorem V4.nth_putEq {A : Type} {v : V4 A} {x : A} {i : Nat} (hi : i < 4) : (v.put i x).nth i = x := by rw [V4.nth_put hi hi, if_pos rfl]
theorem dimsB_same13 {q p : Q13} : ∀ n, (∀ i, i < n → q.g.nth i = p.g.nth i ∧ q.h.nth i = p.h.nth i ∧ (q.h.nth i = true → q.f.nth i = p.f.nth i)) → dimsB13 q n = dimsB13 p n
  | 0, _ => rfl
  | n + 1, h => by
    obtain ⟨h1, h2, h3⟩ := h n (by omega)
    unfold dimsB13
    rw [dimsB_same13 n (fun i hi => h i (by omega)), h1]
    congr 1
    unfold dimB13
    rw [h2] at h3 ⊢
    cases hh : p.h.nth n with
    | true => rw [h3 hh]
    | false => rfl
theorem dims_there13 (s : RS9) : ∀ n, n ≤ 4 → (dimsR13 s n).2.2 = 0 → s.2 = 0 ∧ s.1 = dimsB13 (dimsR13 s n).1 n ++ (dimsR13 s n).2.1
  | 0, _, h => ⟨h, rfl⟩
  | n + 1, hn, h => by
    have ih := dims_there13 s n (by omega)
    have e : dimsR13 s (n + 1) = dimR13 (dimsR13 s n).1 n (dimsR13 s n).2 := rfl
    rw [e] at h ⊢
    obtain ⟨q, hq⟩ : ∃ q, q = (dimsR13 s n).1 := ⟨_, rfl⟩
    obtain ⟨t, ht⟩ : ∃ t, t = (dimsR13 s n).2 := ⟨_, rfl⟩
    rw [← hq, ← ht] at ih h ⊢
    clear hq ht e
    unfold dimR13 at h ⊢
    have hput : ∀ {A : Type} (v : V4 A) (x : A) (i : Nat), i < n → (v.put n x).nth i = v.nth i := fun v x i hi => by
      rw [V4.nth_put (by omega) (by omega), if_neg (by omega)]
    cases hh : sFlag (sFlag' t) with
    | true =>
      rw [hh, if_pos rfl] at h
      rw [if_pos rfl]
      obtain ⟨t1, t2, -⟩ := text_there h
      obtain ⟨f1, f2⟩ := flag_there t1
      obtain ⟨f3, f4⟩ := flag_there f1
      obtain ⟨i1, i2⟩ := ih f3
      refine ⟨i1, ?_⟩
      dsimp only
      rw [i2, dimsB13, V4.nth_putEq (by omega), V4.nth_putEq (by omega), V4.nth_putEq (by omega)]
      conv => rhs; rw [dimsB_same13 (p := q) n (fun i hi => ⟨hput _ _ i hi, hput _ _ i hi, fun _ => hput _ _ i hi⟩)]
      rw [hh] at f2
      unfold dimB13
      rw [if_pos rfl]
      conv => lhs; rw [f4, f2, t2]
      simp only [List.append_assoc]
    | false =>
      rw [hh, if_neg (by simp)] at h
      rw [if_neg (by simp)]
      obtain ⟨f1, f2⟩ := flag_there h
      obtain ⟨f3, f4⟩ := flag_there f1
      obtain ⟨i1, i2⟩ := ih f3
      refine ⟨i1, ?_⟩
      dsimp only
      rw [i2, dimsB13, V4.nth_putEq (by omega), V4.nth_putEq (by omega)]
      conv => rhs; rw [dimsB_same13 (q := { q with g := q.g.put n (sFlag t), h := q.h.put n false }) (p := q) n (fun i hi => ⟨hput _ _ i hi, hput _ _ i hi, fun _ => rfl⟩)]
      rw [hh] at f2
      unfold dimB13
      rw [if_neg (by simp)]
      conv => lhs; rw [f4, f2]
      simp only [List.append_assoc, List.nil_append]
theorem readQ_there {m : List UInt8} {n : Int} {q : Q13} (h : readQ m n = (0, q)) : encQ q n.toNat = m ∧ chkQ q n = 0 := by
  unfold readQ at h
  by_cases h0 : okDims n = true
  · rw [if_pos h0] at h
    by_cases h1 : (dimsR13 (sNum' (sNum' (m, 0))) n.toNat).2.2 = 0
    · rw [if_neg (by simp [h1])] at h
      by_cases h2 : 0 < (dimsR13 (sNum' (sNum' (m, 0))) n.toNat).2.1.length
      · rw [if_pos h2] at h; cases h
      · rw [if_neg h2] at h
        by_cases h3 : 4611686018427387904 < max (sNum (m, 0)) (sNum (sNum' (m, 0)))
        · rw [if_pos h3] at h; cases h
        · rw [if_neg h3] at h
          unfold endQ at h
          by_cases h4 : chkQ (withH (dimsR13 (sNum' (sNum' (m, 0))) n.toNat).1 (sNum (m, 0)) (sNum (sNum' (m, 0)))) n = 0
          · rw [if_pos h4] at h
            cases h
            refine ⟨?_, h4⟩
            obtain ⟨g1, g2⟩ := dims_there13 _ n.toNat (by unfold okDims at h0; simp only [Bool.and_eq_true, decide_eq_true_iff] at h0; omega) h1
            obtain ⟨k1, k2⟩ := num_there g1
            obtain ⟨j1, j2⟩ := num_there k1
            have hnil : (dimsR13 (sNum' (sNum' (m, 0))) n.toNat).2.1 = [] := List.eq_nil_of_length_eq_zero (by omega)
            rw [hnil, List.append_nil] at g2
            have e : dimsB13 (withH (dimsR13 (sNum' (sNum' (m, 0))) n.toNat).1 (sNum (m, 0)) (sNum (sNum' (m, 0)))) n.toNat = dimsB13 (dimsR13 (sNum' (sNum' (m, 0))) n.toNat).1 n.toNat := dimsB_same13 _ (fun i _ => ⟨rfl, rfl, fun _ => rfl⟩)
            unfold encQ
            rw [e, ← g2]
            show enc (((sNum (m, 0) : Nat) : Int)).toNat ++ enc (((sNum (sNum' (m, 0)) : Nat) : Int)).toNat ++ _ = m
            rw [Int.toNat_natCast, Int.toNat_natCast, List.append_assoc, ← k2]
            exact j2.symm
          · rw [if_neg h4] at h
            injection h with h5 h6
            exact absurd h5 h4
    · rw [if_pos h1] at h
      injection h with h5 h6
      omega
  · rw [if_neg h0] at h
    cases h

end Go.Proofs.Ytklpmajaihmmfaa

/-
  A reader of pack (the program's) by its state: the bytes that are left, the fault. For every stage whose code reads bytes so.
-/
namespace Go.Proofs.Ytklpmajaihmmfaa
open Go.RowKit

theorem rdF_zero : ∀ (k i acc : Nat) (l : List UInt8), (rdF k i acc l).2.1 ≠ 0 → (rdF k i acc l).1 = 0
  | 0, _, _, _, _ => rfl
  | _ + 1, _, _, [], _ => rfl
  | k + 1, i, acc, b :: l, h => by
    unfold rdF at h ⊢
    split
    · rename_i hb
      rw [if_pos hb] at h
      exact rdF_zero k _ _ l h
    · rename_i hb
      rw [if_neg hb] at h
      split
      · rfl
      · rename_i hc
        rw [if_neg hc] at h
        exact absurd rfl h
theorem rdNum_zero {l : List UInt8} (h : (rdNum l).2.1 ≠ 0) : (rdNum l).1 = 0 := rdF_zero 10 0 0 l h
theorem rdCount_zero {most : Nat} {l : List UInt8} (h : (rdCount most l).2.1 ≠ 0) : (rdCount most l).1 = 0 := by
  unfold rdCount at h ⊢
  split
  · rfl
  · rename_i h1
    split
    · rfl
    · rename_i h2
      rw [if_neg h1, if_neg h2] at h
      exact absurd rfl h
theorem rdText_zero {most : Nat} {l : List UInt8} (h : (rdText most l).2.1 ≠ 0) : (rdText most l).1 = [] := by
  unfold rdText at h ⊢
  generalize rdCount most l = r at *
  obtain ⟨n, f, m⟩ := r
  simp only at h ⊢
  split
  · rfl
  · rename_i h1
    split
    · rfl
    · rename_i h2
      rw [if_neg h1, if_neg h2] at h
      exact absurd rfl h

/-- What is read in a state, and the state behind it. -/
def gNum (s : List UInt8 × Nat) : Nat := if s.2 = 0 then (rdNum s.1).1 else 0
def gNum' (s : List UInt8 × Nat) : List UInt8 × Nat := if s.2 = 0 then (s.1.drop (rdNum s.1).2.2, (rdNum s.1).2.1) else s
def gInt (s : List UInt8 × Nat) : Int := if s.2 = 0 then zag (rdNum s.1).1 else 0
def gText (most : Nat) (s : List UInt8 × Nat) : List UInt8 := if s.2 = 0 then (rdText most s.1).1 else []
def gText' (most : Nat) (s : List UInt8 × Nat) : List UInt8 × Nat := if s.2 = 0 then (s.1.drop (rdText most s.1).2.2, (rdText most s.1).2.1) else s
def gCount (most : Nat) (s : List UInt8 × Nat) : Nat := if s.2 = 0 then (rdCount most s.1).1 else 0
def gCount' (most : Nat) (s : List UInt8 × Nat) : List UInt8 × Nat := if s.2 = 0 then (s.1.drop (rdCount most s.1).2.2, (rdCount most s.1).2.1) else s

section
variable {w wr : World} {p : Nat} {s : List UInt8 × Nat}
end

end Go.Proofs.Ytklpmajaihmmfaa
