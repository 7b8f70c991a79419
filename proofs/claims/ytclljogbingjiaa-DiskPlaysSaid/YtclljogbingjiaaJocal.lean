/-
  Texts laid one behind the other: Es Dpm Q3u7 Q3u8 Q3u9 Q3v.
-/
import Derived.Test.YtclljogbingjiaaJocad
import Derived.Laws.OwnMore
import Derived.Test.YtclljogbingjiaaJocak
import Derived.Test.YtclljogbingjiaaJocaj

/-
  A struct stored whole into a box, in a region that draws. No type is named here.
-/
namespace Go.Proofs.Ytclljogbingjiaa
open Go.RowKit

theorem put_box {P : Program} {ops : Array Oper} {ty rt : TypeId} {pos : String} {af : Array Edge} {px vx : Operand} {a : Act} {w : World} {K : Act → World → Prop} {Q : Exit → Act → World → Prop} {F : Prop}
    (b o : Nat) (cs : Array Value) (ht : w.there b o cs.size) (hp : a.eval px = .pointer (some ⟨b, o, none⟩)) (hv : a.eval vx = .agg cs) (hi : (P.info? ty).map (·.size) = some cs.size) (h1 : cs.all (·.oneCell') = true)
    (h : K a (w.setCells b o cs.toList)) :
    if Region.wanted { dst := none, op := .store ty px vx, type := rt, pos := pos, after := af, guard := none } (yielded ops a.tmps) = true then Oper.wp P { dst := none, op := .store ty px vx, type := rt, pos := pos, after := af, guard := none } a w K Q else F := by
  rw [if_pos (by rfl)]
  exact wp_store_mid ty px vx rfl b o cs hp hv ht hi h1 h
/-- A box, whole: there to be stored into. -/
theorem Box.there {w : World} {g : Nat} {t : TypeId} {cs : Array Value} (h : Box w g t cs) {n : Nat} (hn : n ≤ cs.size) : w.there g 0 n := fun i hi => by
  refine ⟨?_, h.free _⟩
  rw [h.cell, Nat.zero_add, Array.getElem?_eq_getElem (by omega)]
  rfl
/-- A box stored whole. -/
theorem Box.all {w : World} {g : Nat} {t : TypeId} {cs : Array Value} (h : Box w g t cs) (ds : Array Value) (hd : ds.size = cs.size) : Box (w.setCells g 0 ds.toList) g t ds := by
  have h1 := h.setCells ds.toList 0 cs w (by rw [Array.length_toList]; omega)
  have e : (cs.toList.take 0 ++ ds.toList ++ cs.toList.drop (0 + ds.toList.length)).toArray = ds := by
    rw [List.take_zero, List.nil_append, Nat.zero_add, List.drop_of_length_le (by rw [Array.length_toList, Array.length_toList]; omega), List.append_nil, Array.toArray_toList]
  rwa [e] at h1

section
variable {T : Type} {E : El T} {e : TypeId} {w : World} {ad : Addr} {n c : Nat} {L : List T}
/-- One element stored into a row, in a region that draws nothing. -/
theorem wpList_put {P : Program} {ops : Array Oper} {rest : List Oper} {op : Oper} {a : Act} {Q : Exit → Act → World → Prop} (hgd : op.guard = none) (ty : TypeId) (x y : Operand) (ho : op.op = .store ty x y)
    (hown : OwE E e w (.slice (some ad) n c) L) (j : Nat) (t : T) (hj : j < L.length) (hx : a.eval x = .pointer (some (ad.add (j * E.sz)))) (hy : a.eval y = .agg (E.enc t).toArray) (hi : (P.info? ty).map (·.size) = some E.sz)
    (h : ∀ w', OwE E e w' (.slice (some ad) n c) (L.set j t) → Turn (fun k => k = ad.block) w w' → wpList P ops Q rest (a.put op.dst undef) w') : wpList P ops Q (op :: rest) a w := by
  obtain ⟨cur, ha, -⟩ := hown.home
  have hadd : ad.add (j * E.sz) = ⟨ad.block, ad.off + j * E.sz, none⟩ := by
    obtain ⟨b, o, s⟩ := ad
    simp only [Addr.mk.injEq, true_and] at ha
    obtain ⟨rfl, rfl⟩ := ha
    rw [own_add, Nat.zero_add]
  refine wpList_store_mid hgd ty x y ho ad.block (ad.off + j * E.sz) (E.enc t).toArray (by rw [hx, hadd]) hy (by rw [List.size_toArray, E.len]; exact hown.there hj) (by rw [List.size_toArray, E.len]; exact hi) (all_oneCell_toArray (E.one t)) ?_
  exact h _ (hown.put hj t) (turn_setCells (S := fun k => k = ad.block) rfl _ _ _)
/-- The cells that make lays: so many zeros. -/
theorem made_flat (t : T) (h0 : 0 < E.sz) (N : Nat) : (madeCells (E.enc t).toArray (N * E.sz)).toList = E.flat (List.replicate N t) := by
  refine List.ext_getElem? fun j => ?_
  have hfl : (E.flat (List.replicate N t)).length = N * E.sz := by rw [E.flat_len, List.length_replicate]
  by_cases hj : j < N * E.sz
  · have hm : j % E.sz < E.sz := Nat.mod_lt _ h0
    have hd : j / E.sz < N := Nat.div_lt_of_lt_mul (by rw [Nat.mul_comm]; exact hj)
    have e := E.flat_at (l := List.replicate N t) (j := j / E.sz) (t := t) (by rw [List.getElem?_replicate, if_pos hd]) hm
    rw [Nat.mul_comm, Nat.div_add_mod] at e
    rw [e]
    have hmz : j % E.sz < (E.enc t).length := by rw [E.len]; exact hm
    simp [madeCells, hj, E.len]
    rw [List.getElem?_eq_getElem hmz]
    rfl
  · rw [List.getElem?_eq_none (by rw [Array.length_toList, size_madeCells]; omega), List.getElem?_eq_none (by omega)]
end

end Go.Proofs.Ytclljogbingjiaa

/-
  Stage 10: what Codes and Things answer; rows of numbers and of things that a call makes.
-/
namespace Go.Proofs.Ytclljogbingjiaa
open Go.RowKit

/-- Behind Codes, Things. -/
def Codes10 {A : Type} [DecidableEq A] (w : World) (b L : List A) (e : Ending) (w' : World) : Prop := ∃ u, e = .returned (.tuple #[u, .bool (allIn b L)]) ∧ RdE EC10 w' u (codesG b L) ∧ Turn (fun _ => False) w w'
def Things10 {A : Type} [DecidableEq A] (E : El A) (w : World) (cs : List Int) (L : List A) (e : Ending) (w' : World) : Prop := ∃ u, e = .returned (.tuple #[u, .bool (allAt cs L)]) ∧ RdE E w' u (thingsG cs L) ∧ Turn (fun _ => False) w w'

theorem code_info10 : (Try.prog.info? 3).map (fun i => (i.zero, i.size, i.bytes)) = some (some (.int .i64 0), EC10.sz, 8) := by kernel_rfl
theorem num_info10 : (Try.prog.info? 2).map (fun i => (i.zero, i.size, i.bytes)) = some (some (.int .i64 0), EC10.sz, 8) := by kernel_rfl
theorem num_zero10 : (Value.cells (.int .i64 0)).size = EC10.sz := rfl

/-- A row that make lays, of no elements yet. -/
theorem own_made10 {T : Type} (E : El T) {tS e : TypeId} {z : Value} {by' : Nat} (ht : Try.prog.underlying tS = some (.slice e)) (hi0 : (Try.prog.info? e).map (fun i => (i.zero, i.size, i.bytes)) = some (some z, E.sz, by')) (hs : E.sz = 1) (hb : by' ≤ 16)
    (N : Nat) (hN : N ≤ 1000000) (w : World) : (Instr.makeSlice tS (.int .i64 0) (.int .i64 (N : Int))).run Try.prog w = .ok (.slice (some ⟨w.heap.size, 0, none⟩) 0 N) (w.alloc (.cells (madeCells z.cells N) e)) ∧ OwE E e (w.alloc (.cells (madeCells z.cells N) e)) (.slice (some ⟨w.heap.size, 0, none⟩) 0 N) [] := by
  obtain ⟨i, hi, hz0, h1, h2⟩ := info_parts hi0
  have hNb : N * by' ≤ 1000000 * 16 := Nat.mul_le_mul hN hb
  have h := run_make (P := Try.prog) w tS e i _ ht hi hz0 .i64 .i64 0 (N : Int) (Int.le_refl _) (by omega) (by rw [h2]; first | (rw [← Int.natCast_mul, Nat.mul_comm]; omega) | (rw [← Int.natCast_mul]; omega) | (rw [Nat.mul_comm]; omega) | fail) (by omega)
  rw [h1, show ((N : Int)).toNat = N from Int.toNat_natCast N, hs, Nat.mul_one] at h
  exact ⟨h, OwE.of_box (E := E) (L := []) (c := N) (Box.new w _ _) (Nat.zero_le _) (by simp only [maxLen]; omega) (by rw [size_madeCells, hs, Nat.mul_one]) (by simp [El.flat])⟩
theorem made_texts10 (N : Nat) (hN : N ≤ 1000000) (w : World) : (Instr.makeSlice 39 (.int .i64 0) (.int .i64 (N : Int))).run Try.prog w = .ok (.slice (some ⟨w.heap.size, 0, none⟩) 0 N) (w.alloc (.cells (madeCells (Value.cells (.string ⟨#[]⟩)) N) 9)) :=
  (own_made10 ET10 Try.underlying39 str_info10 rfl (by decide) N hN w).1
theorem own_texts10 (N : Nat) (hN : N ≤ 1000000) (w : World) : OwE ET10 9 (w.alloc (.cells (madeCells (Value.cells (.string ⟨#[]⟩)) N) 9)) (.slice (some ⟨w.heap.size, 0, none⟩) 0 N) [] :=
  (own_made10 ET10 Try.underlying39 str_info10 rfl (by decide) N hN w).2

theorem wpList_texts10 (w : World) {ops : Array Oper} {rest : List Oper} {o : Oper} {a : Act} {Q : Exit → Act → World → Prop} (hgd : o.guard = none) (s x : Operand)
    (ho : o.op = .call { callee := .builtin .append, args := #[s, x], argTypes := #[39, 39] }) (v : Value) (l : List (List UInt8)) (hs : a.eval s = v) (hown : OwE ET10 9 w v l)
    (y : Value) (hx : a.eval x = y) (m : List (List UInt8)) (hy : RdE ET10 w y m) (hl : l.length + m.length ≤ 3000000)
    (h : ∀ A n c w', OwE ET10 9 w' (.slice A n c) (l ++ m) → Turn (fun k => v.ownBlock = some k) w w' → ((Value.slice A n c).ownBlock = v.ownBlock ∨ (Value.slice A n c).ownBlock = some w.heap.size) → wpList Try.prog ops Q rest (a.put o.dst (.slice A n c)) w') :
    wpList Try.prog ops Q (o :: rest) a w :=
  wpList_appE Try.underlying39 str_info10 str_zero10 w hgd s x _ ho v l hs hown y hx m (hy.src Try.underlying39) (by simp only [maxLen]; omega) (by omega) h

end Go.Proofs.Ytclljogbingjiaa

/-
  Stage 15, the program: Bytes, Names: ranges over the map.
-/
namespace Go.Proofs.Ytclljogbingjiaa
open Go.RowKit Go.Shelf
attribute [local go_sem] Oper.semAt_some wide_fn

set_option maxRecDepth 100000

theorem fm_at15 {V U : Type} {f : V → U} {l : List (List UInt8 × V)} {i : Nat} {y : List UInt8 × U} (h : (fm15 f l)[i]? = some y) : ∃ q, l[i]? = some q ∧ y = (q.1, f q.2) := by
  unfold fm15 at h
  rw [List.getElem?_map] at h
  cases e : l[i]? with
  | none => rw [e] at h; cases h
  | some q => rw [e] at h; cases h; exact ⟨q, rfl, rfl⟩
/-- How many bytes the first i files have. -/
def sum15 (M : PM15) (i : Nat) : Int := bytes15 (fm15 PF15.f (M.take i))
theorem sum_next15 {M : PM15} {i : Nat} {q : List UInt8 × PF15} (h : M[i]? = some q) : sum15 M (i + 1) = sum15 M i + (q.2.f.1.length : Int) := by
  unfold sum15
  rw [take_snoc15 h]
  unfold fm15
  rw [List.map_append]
  exact bytes_snoc15 _ _
theorem sum_le15 {M : PM15} {d : D15} (h : fm15 PF15.f M = d.l) (hb : BdP15 d) (i : Nat) : 0 ≤ sum15 M i ∧ sum15 M i ≤ 40000000000 := by
  have h1 := bytes_le15 (l := fm15 PF15.f (M.take i)) (m := 4194304) (fun p hp => by
    have hp2 : p ∈ d.l := by
      rw [← h]
      unfold fm15 at hp ⊢
      obtain ⟨q, hq, e⟩ := List.mem_map.1 hp
      exact List.mem_map.2 ⟨q, List.mem_of_mem_take hq, e⟩
    exact (hb.ok.files p hp2).2)
  have h2 : (fm15 PF15.f (M.take i)).length ≤ 9000 := by
    rw [fm_len15, List.length_take]
    have := hb.len
    rw [← h, fm_len15] at this
    omega
  have h3 : ((fm15 PF15.f (M.take i)).length * 4194304 : Nat) ≤ 9000 * 4194304 := Nat.mul_le_mul_right _ h2
  unfold sum15
  exact ⟨h1.1, by omega⟩
theorem cell_far15 {w w' : World} {q : Nat} {t : TypeId} {cs : Array Value} {S : Nat → Prop} (h : Box w q t cs) (ht : Turn S w w') (hs : ∀ k, S k → w.heap.size ≤ k) : Box w' q t cs := h.turn ht (fun e => by have := hs q e; have := h.lt; omega)

set_option maxHeartbeats 8000000 in
theorem bytes_any15 {w : World} {F : Nat → Prop} {g : Nat} {d : D15} (hm : DM15 w F g d) (hbd : BdP15 d) : Calls Try.prog 12 #[.pointer (some ⟨g, 0, none⟩)] w fun e w' => SaysP15 w (.int .i64 (bytes15 d.l)) e w' := by
  obtain ⟨M, rfl, h, e⟩ := hm
  have HD := Lib.hid h
  have HS : Hid (∀ i, 0 ≤ sum15 M i ∧ sum15 M i ≤ 40000000000) := sum_le15 e hbd
  have HLL : Hid (∀ q ∈ M, q.2.f.1.length ≤ 4194304) := fun q hq => (hbd.ok.files (q.1, q.2.f) (by rw [← e]; exact List.mem_map.2 ⟨q, hq, rfl⟩)).2
  have HE : Hid (sum15 M M.length = bytes15 d.l) := by show _ = _; unfold sum15; rw [List.take_length, e]
  obtain ⟨q, hq⟩ : ∃ q, q = w.heap.size := ⟨_, rfl⟩
  obtain ⟨w1, hw1⟩ : ∃ w1, w1 = w.alloc (.cells #[.int .i64 0] 2) := ⟨_, rfl⟩
  have HB1 : Hid (Box w1 q 2 #[.int .i64 0]) := by rw [hw1, hq]; exact Box.new w _ _
  have HT1 : Hid (Turn (fun _ => False) w w1) := by rw [hw1]; exact (Turn.refl _ w).alloc _
  have HQ := Lib.hid hq
  have HW1 := Lib.hid hw1
  clear h e hbd hq hw1
  refine (callsIn_wide (n := 5)).1 ?_
  refine callsIn_of_wp_marks Try.func12 rfl trivial ?_ rfl
  simp only [Try.ntmps12, List.size_toArray, List.length_cons, List.length_nil, Nat.reduceAdd, Nat.reduceSub, Array.replicate_succ, Array.replicate_zero, List.push_toArray, List.append_toArray, List.nil_append, List.cons_append]
  refine wpIn_wide.2 ?_
  go_wp2_with fail
  rw [← HW1.out, ← HQ.out]
  refine (omp.all_any (HD.out.later HT1.out).map).mono ?_
  rintro e w5 ⟨q1, q2, rfl, hr⟩
  have HRA := Lib.hid hr
  have HB5 := Lib.hid (HB1.out.turn hr.turn (fun f => f))
  have HTW5 : Hid (Turn (fun _ => False) w w5) := HT1.out.trans hr.turn (fun _ _ f => f)
  have HD5 := Lib.hid (HD.out.later HTW5.out)
  obtain ⟨A5, x5, hq1, hq2, -, -⟩ := hr.out
  have HQQ : Hid (q < q1 ∧ q < q2 ∧ q1 < w5.heap.size ∧ q2 < w5.heap.size ∧ q < w5.heap.size) := by
    have h1 := HB1.out.lt
    exact ⟨by have := hr.new1; omega, by have := hr.new2; omega, hq1.lt, hq2.lt, HB5.out.lt⟩
  clear hr hq1 hq2
  unfold omp.RisV
  go_wp2_with fail
  refine (wpIn_wide (n := 5)).1 ?_
  refine' over2 (n := 5) (by omega) (gf := 62) (lb := #[.pointer (some ⟨q1, 0, none⟩), .pointer (some ⟨q2, 0, none⟩)]) rfl (enters_of Try.func62 (by kernel_rfl) rfl)
    (omp.all_feeds 4 HRA.out (fun k => k = q ∨ k = w5.heap.size + 1) (by have := HQQ.out; omega) (by have := HQQ.out; omega) ⟨fun i cs hb e => by
      rcases e with e | e
      · exact box_ne10 hb HB5.out (by decide) e
      · have := hb.lt; omega⟩) (Turn.refl _ _) (Or.inr rfl) (fun k e => by have := HQQ.out; omega) (fun pre => fun _ _ _ h _ => h) (fun _ => rfl)
    (fun (pre : List ((List UInt8) × (Option Addr))) V => Box V q 2 #[.int .i64 (sum15 M pre.length)] ∧ Turn (fun k => k = q) w5 V)
    (fun _ _ _ => False) (Holds.and (holds_box _ _ _ (fun (pre : List ((List UInt8) × (Option Addr))) => #[.int .i64 (sum15 M pre.length)])) (holds_turn (fun k h1 h2 => by omega))) (fun _ _ _ _ h _ => h) ⟨HB5.out, Turn.refl _ _⟩ _ ?assign ?body ?done ?stop
  case assign =>
    intro l0 x W K hK
    have HK := Lib.hid hK; clear hK
    gi_wp2
    exact HK.out
  case stop =>
    rintro D c0 pre V _ _ h _
    exact h.elim
  case body =>
    rintro l0 pre y V ⟨hb, ht⟩ hgv
    obtain ⟨p, hp, rfl⟩ := fm_at15 (pre_at10 hgv).1
    have hmem := List.mem_of_getElem? hp
    have hf5 := HD5.out.files _ hmem
    have HFV : Hid (FA15 V p.2) := hf5.turn ht (fun e => absurd (box_typ15 (e ▸ hf5.box) HB5.out) (by decide)) (fun k hk e => by
      subst e
      obtain ⟨cs, h1⟩ := hf5.row.typ hk
      exact absurd (box_typ15 h1 HB5.out) (by decide))
    have HSN := Lib.hid (sum_next15 hp)
    have hs1 := (HS.out (pre.length + 1))
    rw [HSN.out] at hs1
    have hs0 := (HS.out pre.length)
    have HB := Lib.hid hb; have HTV := Lib.hid ht
    obtain ⟨A, c, hsl⟩ := HFV.out.row.shape
    have hfb := HFV.out.box
    rw [hsl] at hfb
    have HFB := Lib.hid hfb
    clear hb ht hgv hp hmem hf5 hfb hsl
    unfold PF15.at
    dsimp only
    have hwr : IntKind.i64.wrap (sum15 M pre.length + (p.2.f.1.length : Int)) = sum15 M pre.length + (p.2.f.1.length : Int) := IntWalk.i64_in _ (by omega)
    have hl1 : (pre ++ [(p.1, (some ⟨p.2.b, 0, none⟩ : Option Addr))]).length = pre.length + 1 := by rw [List.length_append]; rfl
    have HL1 := Lib.hid hl1
    clear hl1 hs0 hs1
    gi_wp2_with fail
    refine drawn_region_in (fun W => Turn (fun _ => False) V W) [7] (by kernel_rfl) (by kernel_rfl) ?_
    have hS0 : Turn (fun _ => False) V (World.drew V) := (Turn.refl _ V).drew
    generalize World.drew V = wd at *
    generalize sum15 M pre.length = s0 at *
    generalize p.2.f.1.length = N at *
    refine drawn_take 0 14 (.int .i64 s0) rfl rfl (by kernel_rfl) (by kernel_rfl) (by kernel_rfl) (by kernel_rfl) (fun _ _ _ h => h) (by rfl) (by assumption) (by intro w hSw; have a0 := (HB.out.turn hSw (fun f => f)).cell 0; clear hSw; go_simp) ?_
    try simp only [List.setIfInBounds_toArray, List.set_cons_zero, List.set_cons_succ]
    refine drawn_take 1 15 (.pointer (some ⟨p.2.b, 0, none⟩)) rfl rfl (by kernel_rfl) (by kernel_rfl) (by kernel_rfl) (by kernel_rfl) (fun _ _ _ h => h) (by rfl) (by assumption) (by intro w hSw; clear hSw; go_simp) ?_
    try simp only [List.setIfInBounds_toArray, List.set_cons_zero, List.set_cons_succ]
    refine drawn_take 2 16 (.pointer (some ⟨p.2.b, 0, none⟩)) rfl rfl (by kernel_rfl) (by kernel_rfl) (by kernel_rfl) (by kernel_rfl) (fun _ _ _ h => h) (by rfl) (by assumption) (by intro w hSw; clear hSw; go_simp) ?_
    try simp only [List.setIfInBounds_toArray, List.set_cons_zero, List.set_cons_succ]
    refine drawn_take 3 17 (.pointer (some ⟨p.2.b, 0, none⟩)) rfl rfl (by kernel_rfl) (by kernel_rfl) (by kernel_rfl) (by kernel_rfl) (fun _ _ _ h => h) (by rfl) (by assumption) (by intro w hSw; clear hSw; go_simp) ?_
    try simp only [List.setIfInBounds_toArray, List.set_cons_zero, List.set_cons_succ]
    refine drawn_take 4 18 (.slice A N c) rfl rfl (by kernel_rfl) (by kernel_rfl) (by kernel_rfl) (by kernel_rfl) (fun _ _ _ h => h) (by rfl) (by assumption) (by intro w hSw; have a0 := (HFB.out.turn hSw (fun f => f)).cell 0; clear hSw; go_simp) ?_
    try simp only [List.setIfInBounds_toArray, List.set_cons_zero, List.set_cons_succ]
    refine drawn_take 5 19 (.int .i64 (N : Int)) rfl rfl (by kernel_rfl) (by kernel_rfl) (by kernel_rfl) (by kernel_rfl) (fun _ _ _ h => h) (by rfl) (by assumption) (by intro w hSw; clear hSw; go_simp) ?_
    try simp only [List.setIfInBounds_toArray, List.set_cons_zero, List.set_cons_succ]
    refine drawn_take 6 20 (.int .i64 (s0 + (N : Int))) rfl rfl (by kernel_rfl) (by kernel_rfl) (by kernel_rfl) (by kernel_rfl) (fun _ _ _ h => h) (by rfl) (by assumption) (by intro w hSw; clear hSw; go_simp) ?_
    try simp only [List.setIfInBounds_toArray, List.set_cons_zero, List.set_cons_succ]
    have HBD := Lib.hid (HB.out.turn hS0 (fun f => f))
    have z0 := HBD.out.cell 0
    have zf := HBD.out.free 0
    have HTD := Lib.hid hS0
    refine drawn_last (z := 7) rfl (by kernel_rfl) (by kernel_rfl) (by kernel_rfl) (fun K hK => ?_)
    clear hS0
    go_simp
    refine hK.out _ _ ?_
    clear hK K z0 zf
    refine goes_on ?_
    have hst : Turn (fun k => k = q) wd (wd.setCell ⟨q, 0, none⟩ (.int .i64 (s0 + (N : Int)))) := Turn.setCell (S := fun k => k = q) (p := ⟨q, 0, none⟩) (Turn.refl _ wd) (fun _ => rfl) _
    have hVs : Turn (fun k => k = q) V (wd.setCell ⟨q, 0, none⟩ (.int .i64 (s0 + (N : Int)))) := (HTD.out.mono (fun _ _ f => f.elim)).trans hst (fun _ _ e => e)
    refine ⟨?_, ?_, ?_⟩
    · exact (Still.turned HTD.out).trans (Still.setCell _ _ _)
    · exact hVs.mono (fun _ _ e => .inl e)
    · refine ⟨?_, HTV.out.trans hVs (fun _ _ e => e)⟩
      rw [HL1.out, HSN.out]
      exact HBD.out.set 0 (.int .i64 (s0 + (N : Int)))
  case done =>
    rintro D xs V hD hA ⟨hb, ht⟩ hK
    subst hA
    rw [fm_len15, HE.out] at hb
    have c0 := hb.cell 0
    have HTV := Lib.hid ht; have HKD := Lib.hid hK; have HDD := Lib.hid hD
    clear hb ht hK hD
    go_wp2
    have k1 : V.heap[D]? = some (.deferred (some [])) := HKD.out
    have u1 : Turn (fun k => k = D) V (V.putObj D (.deferred none)) := Turn.putObj _ D _ rfl
    refine ⟨by simp, .inl ⟨_, _, rfl, run_takeDeferred k1, ?_⟩⟩
    refine ⟨.int .i64 (bytes15 d.l), ?_, ?_⟩
    · simp [results, Try.f12, go_sem]
    · refine ⟨rfl, (HTW5.out.trans HTV.out (fun k hk e => by have := HQ.out; omega)).trans u1 (fun k hk e => ?_)⟩
      have h1 := HTW5.out.size
      have h2 := HDD.out
      omega

end Go.Proofs.Ytclljogbingjiaa

/-
  Stage 15, the program: Names.
-/
namespace Go.Proofs.Ytclljogbingjiaa
open Go.RowKit Go.Shelf
attribute [local go_sem] Oper.semAt_some wide_fn

set_option maxRecDepth 100000

theorem fm_keys15 {V U : Type} (f : V → U) (l : List (List UInt8 × V)) : (fm15 f l).map (·.1) = l.map (·.1) := by unfold fm15; rw [List.map_map]; rfl

set_option maxHeartbeats 8000000 in
theorem names_any15 {w : World} {F : Nat → Prop} {g : Nat} {d : D15} (hm : DM15 w F g d) (hbd : BdP15 d) : Calls Try.prog 19 #[.pointer (some ⟨g, 0, none⟩)] w fun e w' => Names15 w (d.l.map (·.1)) e w' := by
  obtain ⟨M, rfl, h, e⟩ := hm
  have HLN : Hid (M.length ≤ 9000) := by have := hbd.len; rw [← e, fm_len15] at this; exact this
  have HKK : Hid ((fm15 PF15.at M).map (·.1) = d.l.map (·.1)) := by show _ = _; rw [fm_keys15, ← e, fm_keys15]
  obtain ⟨L, hL⟩ : ∃ L, L = d.l.map (·.1) := ⟨_, rfl⟩
  rw [← hL] at HKK ⊢
  have HMP := Lib.hid h.map
  clear e hbd hL h
  obtain ⟨X, hX⟩ : ∃ X, X = fm15 PF15.at M := ⟨_, rfl⟩
  have hxl : X.length ≤ 9000 := by rw [hX, fm_len15]; exact HLN.out
  rw [← hX] at HMP HKK
  clear hX HLN
  refine (callsIn_wide (n := 5)).1 ?_
  refine callsIn_of_wp_marks Try.func19 rfl trivial ?_ rfl
  simp only [Try.ntmps19, List.size_toArray, List.length_cons, List.length_nil, Nat.reduceAdd, Nat.reduceSub, Array.replicate_succ, Array.replicate_zero, List.push_toArray, List.append_toArray, List.nil_append, List.cons_append]
  refine wpIn_wide.2 ?_
  go_wp2_with fail
  refine (omp.len_any HMP.out).mono ?_
  rintro e w2 ⟨rfl, rfl⟩
  have hmk := made_texts10 X.length (by omega) w
  have HR0 := Lib.hid (own_texts10 X.length (by omega) w)
  go_wp2_with fail
  clear hmk
  obtain ⟨R, hR⟩ : ∃ R : Nat, R = w.heap.size := ⟨_, rfl⟩
  obtain ⟨wb, hwb⟩ : ∃ wb, wb = (w.alloc (.cells (madeCells #[.string ⟨#[]⟩] X.length) 9)).alloc (.cells #[.slice (some ⟨R, 0, none⟩) 0 X.length] 39) := ⟨_, rfl⟩
  have HTB : Hid (Turn (fun _ => False) w wb) := by rw [hwb]; exact ((Turn.refl _ w).alloc _).alloc _
  have HBX : Hid (Box wb (R + 1) 39 #[.slice (some ⟨R, 0, none⟩) 0 X.length]) := by
    rw [hwb, hR]
    have h := Box.new (w.alloc (.cells (madeCells #[.string ⟨#[]⟩] X.length) 9)) 39 #[.slice (some ⟨w.heap.size, 0, none⟩) 0 X.length]
    rw [World.size_alloc] at h
    exact h
  have HRO : Hid (OwE ET10 9 wb (.slice (some ⟨R, 0, none⟩) 0 X.length) []) := by
    rw [hwb, hR]
    exact HR0.out.turn ((Turn.refl (fun _ => False) _).alloc _) (fun _ _ f => f)
  have HRW := Lib.hid hR
  rw [← hR]
  rw [← hwb]
  clear hwb hR HR0
  refine (omp.all_any (HMP.out.later HTB.out)).mono ?_
  rintro e w5 ⟨q1, q2, rfl, hr⟩
  have HRA := Lib.hid hr
  have HB5 := Lib.hid (HBX.out.turn hr.turn (fun f => f))
  have HO5 := Lib.hid (HRO.out.later hr.turn)
  have HT5 : Hid (Turn (fun _ => False) w w5) := HTB.out.trans hr.turn (fun _ _ f => f)
  obtain ⟨A5, x5, hq1, hq2, -, -⟩ := hr.out
  have hz := HBX.out.lt
  have HQ : Hid (R + 1 < q1 ∧ R + 1 < q2 ∧ q1 < w5.heap.size ∧ q2 < w5.heap.size ∧ R + 1 < w5.heap.size) := ⟨by have := hr.new1; omega, by have := hr.new2; omega, hq1.lt, hq2.lt, HB5.out.lt⟩
  clear hr hq1 hq2 hz
  unfold omp.RisV
  go_wp2_with fail
  refine (wpIn_wide (n := 5)).1 ?_
  refine' over2 (n := 5) (by omega) (gf := 62) (lb := #[.pointer (some ⟨q1, 0, none⟩), .pointer (some ⟨q2, 0, none⟩)]) rfl (enters_of Try.func62 (by kernel_rfl) rfl)
    (omp.all_feeds 4 HRA.out (fun k => k = R ∨ k = R + 1 ∨ k = w5.heap.size + 1) (by have := HQ.out; omega) (by have := HQ.out; omega) ⟨fun g cs hb e => by
      rcases e with e | e | e
      · exact box_not_own hb HO5.out rfl (by decide) e
      · exact box_ne10 hb HB5.out (by decide) e
      · have := hb.lt; omega⟩) (Turn.refl _ _) (Or.inr (Or.inr rfl)) (fun k e => by have := HQ.out; omega) (fun pre => fun _ _ _ h _ => h) (fun _ => rfl)
    (fun (pre : List ((List UInt8) × (Option Addr))) V => Box V (R + 1) 39 #[.slice (some ⟨R, 0, none⟩) pre.length X.length] ∧ OwE ET10 9 V (.slice (some ⟨R, 0, none⟩) pre.length X.length) (pre.map (·.1)) ∧ Turn (fun k => k = R ∨ k = R + 1) w5 V)
    (fun _ _ _ => False) (Holds.and (holds_box _ _ _ (fun (pre : List ((List UInt8) × (Option Addr))) => #[.slice (some ⟨R, 0, none⟩) pre.length X.length])) (Holds.and (holds_own _ (fun (pre : List ((List UInt8) × (Option Addr))) => .slice (some ⟨R, 0, none⟩) pre.length X.length) (fun pre => pre.map (·.1))) (holds_turn (fun k h1 h2 => by omega)))) (fun _ _ _ _ h _ => h) ⟨HB5.out, HO5.out, Turn.refl _ _⟩ _ ?assign ?body ?done ?stop
  case assign =>
    intro l0 x W K hK
    have HK := Lib.hid hK; clear hK
    gi_wp2
    exact HK.out
  case stop =>
    rintro D c0 pre V _ _ h _
    exact h.elim
  case body =>
    rintro l0 pre y V ⟨hb, ho, ht⟩ hgv
    obtain ⟨k, n⟩ := y
    dsimp only
    have cB := hb.cell 0
    have fB := hb.free 0
    have hpl := (pre_at10 hgv).2
    have HB := Lib.hid hb; have HO := Lib.hid ho; have HTV := Lib.hid ht
    clear hb ho ht hgv
    have hpn : (pre.map (·.1)).length = pre.length := List.length_map _
    have HN1 := Lib.hid (HO.out.later ((Turn.refl (fun _ => False) V).alloc (.cells #[(sv10 k)] 9)))
    have HSR := Lib.hid ((one_row ET10 9 V k).src Try.underlying39)
    gi_wp2_with (gi_at_builtin; refine wpListIn_room Try.underlying39 str_info10 _ rfl _ _ rfl R pre.length X.length _ rfl HN1.out _ rfl [k] HSR.out (by rw [hpn]; simp only [List.length_cons, List.length_nil]; omega) ?_; intro w6 ho6 ht6; have HO6 := Lib.hid ho6; have HT6 := Lib.hid ht6; have b6 := (HB.out.turn ((Turn.refl (fun _ => False) V).alloc (.cells #[(sv10 k)] 9)) (fun f => f)).turn ht6 (by omega); have c6 := b6.cell 0; have f6 := b6.free 0; have HB6 := Lib.hid b6; clear ho6 ht6 b6)
    have e9 : (pre ++ [(k, n)] : List ((List UInt8) × (Option Addr))).length = pre.length + 1 := by rw [List.length_append]; rfl
    have HT16 : Hid (Turn (fun k => k = R ∨ k = R + 1) V w6) := ((Turn.refl (fun k => k = R ∨ k = R + 1) V).alloc (.cells #[(sv10 k)] 9)).trans HT6.out (fun _ _ e => .inl e)
    refine ⟨?_, ?_, ?_⟩
    · exact (Still.turned ((Turn.refl (fun _ => False) V).alloc (.cells #[(sv10 k)] 9))).trans ((own_still HT6.out (own_cells HN1.out rfl)).trans (Still.setCell _ _ _))
    · exact (HT16.out.mono (fun _ _ e => e.imp id .inl)).setCell (p := ⟨R + 1, 0, none⟩) (fun _ => .inr (.inl rfl)) _
    · refine ⟨?_, ?_, ?_⟩
      · rw [e9]
        exact HB6.out.set 0 (.slice (some ⟨R, 0, none⟩) (pre.length + 1) X.length)
      · rw [e9, List.map_append]
        have h := HO6.out.turn ((Turn.refl (fun k => k = R + 1) w6).setCell (p := ⟨R + 1, 0, none⟩) (fun _ => rfl) (.slice (some ⟨R, 0, none⟩) (pre.length + 1) X.length)) (fun k hk e => by simp only [Value.ownBlock, Option.some.injEq] at hk; omega)
        rw [hpn] at h
        exact h
      · exact (HTV.out.trans HT16.out (fun _ _ e => e)).setCell (p := ⟨R + 1, 0, none⟩) (fun _ => .inr rfl) _
  case done =>
    rintro D xs V hD hA ⟨hb, ho, ht⟩ hK
    subst hA
    have hrd := ho.rd
    rw [HKK.out] at hrd
    have cB := hb.cell 0
    have hbr : ∃ cs, Box V R 9 cs := by
      rcases ho.form with ⟨e1, _⟩ | ⟨g', cap, cur, e1, hb', _⟩
      · cases e1
      · have e2 := congrArg Value.ownBlock e1
        simp only [Value.ownBlock, Option.some.injEq] at e2
        subst e2
        exact ⟨_, hb'⟩
    have HBR := Lib.hid hbr
    have HR := Lib.hid hrd; have HTV := Lib.hid ht; have HKD := Lib.hid hK; have HDD := Lib.hid hD
    clear hb ho ht hK hD hrd hbr
    go_wp2
    have k1 : V.heap[D]? = some (.deferred (some [])) := HKD.out
    have u1 : Turn (fun k => k = D) V (V.putObj D (.deferred none)) := Turn.putObj _ D _ rfl
    refine ⟨by simp, .inl ⟨_, _, rfl, run_takeDeferred k1, ?_⟩⟩
    refine ⟨.slice (some ⟨R, 0, none⟩) xs.length xs.length, ?_, ?_⟩
    · simp [results, Try.f19, go_sem]
    · refine ⟨_, rfl, HR.out.turn u1 (fun b hb e => ?_), (HT5.out.trans HTV.out (fun k hk e => by have := HRW.out; omega)).trans u1 (fun k hk e => ?_)⟩
      · simp only [Value.ownBlock, Option.some.injEq] at hb
        obtain ⟨cs, hc⟩ := HBR.out
        have hRD : R = D := hb.trans e
        rw [← hRD, show V.heap[R]? = _ from hc] at k1
        cases k1
      · have h1 := HT5.out.size
        have h2 := HDD.out
        omega

end Go.Proofs.Ytclljogbingjiaa

/-
  Stage 15, the program: Crash.
-/
namespace Go.Proofs.Ytclljogbingjiaa
open Go.RowKit Go.Shelf
attribute [local go_sem] Oper.semAt_some wide_fn

set_option maxRecDepth 100000

def cutV15 (v : Value) (k : Nat) : Value := match v with
  | .slice A _ _ => .slice A k k
  | u => u
/-- A file behind a crash. -/
def cutP15 (keep : Int) (p : PF15) : PF15 := ⟨p.b, cutV15 p.sl (stay15 keep p.f), cut15 keep p.f⟩
theorem cut_own15 (keep : Int) (p : PF15) : (cutP15 keep p).sl.ownBlock = p.sl.ownBlock := by
  unfold cutP15 cutV15
  dsimp only
  split
  · rename_i A _ _ h
    rw [h]
    cases A <;> rfl
  · rfl

set_option maxHeartbeats 4000000 in
theorem fcrash_any15 (keep : Int) (hk : (Lit.int .i64 keep).wf = true) {w : World} {p : PF15} (h : FA15 w p) (hf : p.f.2 ≤ p.f.1.length) (hl : p.f.1.length ≤ 4194304) :
    Calls Try.prog 47 #[.pointer (some ⟨p.b, 0, none⟩), .int .i64 keep] w fun e w' => e = .returned (.tuple #[]) ∧ Turn (fun k => k = p.b) w w' ∧ FA15 w' (cutP15 keep p) := by
  obtain ⟨A, c, hs⟩ := h.row.shape
  have hfit := h.row.rd
  rw [hs] at hfit
  have hfits := hfit.fits
  have HROW := Lib.hid h.row
  have HFA := Lib.hid h
  have HHS := Lib.hid hs
  have hb := h.box
  rw [hs] at hb
  have HB := Lib.hid hb
  have HFL : Hid (Calls Try.prog 38 #[.pointer (some ⟨p.b, 0, none⟩)] w fun e w' => e = .returned (.int .i64 ((p.f.1.length : Int) - (p.f.2 : Int))) ∧ ∃ k, w' = w.drewN k) := floose_any15 h hf hl
  have HST : Hid (stay15 keep p.f ≤ p.f.1.length) := stay_le15 hf
  have HSI : Hid (0 ≤ keep → (stay15 keep p.f : Int) = (p.f.2 : Int) + Int.tmod keep ((p.f.1.length : Int) - (p.f.2 : Int) + 1)) := fun h => stay_int15 (f := p.f) hf h
  have HSN : Hid (keep ≤ 0 → stay15 keep p.f = p.f.2) := fun h0 => by
    by_cases h1 : keep < 0
    · exact if_neg (by omega)
    · obtain rfl : keep = 0 := by omega
      unfold stay15
      rw [if_pos (by decide)]
      show p.f.2 + 0 % _ = _
      rw [Nat.zero_mod, Nat.add_zero]
  have HCU : Hid (∀ w' : World, Box w' p.b 67 #[.slice A (stay15 keep p.f) (stay15 keep p.f), .int .i64 (stay15 keep p.f : Int)] → Turn (fun k => k = p.b) w w' → FA15 w' (cutP15 keep p)) := fun w' hb' ht => by
    refine ⟨?_, ?_⟩
    · show Box w' p.b _ #[cutV15 p.sl _, _]
      rw [HHS.out]
      exact hb'
    · show Bw15 w' (cutV15 p.sl _) _
      have := h.row.cut HHS.out (stay15 keep p.f) HST.out
      rw [HHS.out]
      exact this.turn ht (fun k hk2 e => by
        subst e
        obtain ⟨cs, h1⟩ := h.row.typ (k := p.b) (by rw [HHS.out]; cases A <;> exact hk2)
        exact absurd (box_typ15 h1 h.box) (by decide))
  have x0 := hb.cell 0
  have x1 := hb.cell 1
  have f0 := hb.free 0
  have f1 := hb.free 1
  have HCAP : Hid (p.f.1.length ≤ c ∧ stay15 keep p.f ≤ c) := ⟨hfits.2.1, Nat.le_trans HST.out hfits.2.1⟩
  clear h hs hb hfit hfits
  generalize hM : stay15 keep p.f = S at *
  generalize hN : p.f.1.length = N at *
  generalize hKK : p.f.2 = K at *
  generalize p.b = b at *
  clear hM hN hKK
  have HEND : Hid (∀ k, Turn (fun k => k = b) w (((w.drewN k).setCell ⟨b, 0, none⟩ (.slice A S S)).setCell ⟨b, 1, none⟩ (.int .i64 (S : Int))) ∧ Box (((w.drewN k).setCell ⟨b, 0, none⟩ (.slice A S S)).setCell ⟨b, 1, none⟩ (.int .i64 (S : Int))) b 67 #[.slice A S S, .int .i64 (S : Int)]) := fun k => by
    refine ⟨(((Turn.refl (fun k => k = b) w).drewN k).setCell (p := ⟨b, 0, none⟩) (fun _ => rfl) _).setCell (p := ⟨b, 1, none⟩) (fun _ => rfl) _, ?_⟩
    have hb := ((HB.out.turn ((Turn.refl (fun _ => False) w).drewN k) (fun f => f)).set 0 (.slice A S S)).set 1 (.int .i64 (S : Int))
    simp only [List.setIfInBounds_toArray, List.set_cons_zero, List.set_cons_succ] at hb
    exact hb
  have HSC := HCAP.out.2
  by_cases h0 : 0 < keep
  · have h0' : 0 ≤ keep := by omega
    have hm1 := HSI.out h0'
    have hSN := HST.out
    have hwr : IntKind.i64.wrap ((N : Int) - (K : Int) + 1) = (N : Int) - (K : Int) + 1 := IntWalk.i64_in _ (by omega)
    have hdv : ¬ ((N : Int) - (K : Int) + 1 = 0) := by omega
    have hge : Int.tmod keep ((N : Int) - (K : Int) + 1) = (S : Int) - (K : Int) := by omega
    have hsum : (K : Int) + ((S : Int) - (K : Int)) = (S : Int) := by omega
    clear hm1 HSI HSN h0'
    go_enter Try.func47, Try.ntmps47
    go_wp2_with fail
    refine HFL.out.mono ?_
    rintro e w1 ⟨rfl, k, rfl⟩
    clear HFL
    go_wp2
    go_end0
    exact ⟨rfl, (HEND.out k).1, HCU.out _ (HEND.out k).2 (HEND.out k).1⟩
  · have h0' : keep ≤ 0 := by omega
    have e1 := HSN.out h0'
    subst e1
    clear HSI HSN
    go_enter Try.func47, Try.ntmps47
    go_wp2
    go_end0
    exact ⟨rfl, (HEND.out 0).1, HCU.out _ (HEND.out 0).2 (HEND.out 0).1⟩

theorem Bw15.odd {D : Nat} {w w' : World} {v : Value} {l : List UInt8} (h : Bw15 w v l) (ht : Turn (odd D w) w w') : Bw15 w' v l := by
  rcases h with h | ⟨g, cap, cur, rfl, hb, rest⟩
  · exact .inl h
  · exact .inr ⟨g, cap, cur, rfl, hb.odd ht, rest⟩
theorem FA15.odd {D : Nat} {w w' : World} {p : PF15} (h : FA15 w p) (ht : Turn (odd D w) w w') : FA15 w' p := ⟨h.box.odd ht, h.row.odd ht⟩
/-- The first i files are behind the crash. -/
def Cuts15 (keep : Int) (M : PM15) (i : Nat) (w : World) : Prop := ∀ j q, M[j]? = some q → FA15 w (if j < i then cutP15 keep q.2 else q.2)
/-- The files' boxes. -/
def Boxes15 (M : PM15) (k : Nat) : Prop := ∃ q ∈ M, q.2.b = k
theorem cuts_next15 {keep : Int} {M : PM15} (hap : ∀ q ∈ M, ∀ r ∈ M, q.1 ≠ r.1 → q.2.b ≠ r.2.b) (hu : Up ltN M) {i : Nat} {q : List UInt8 × PF15} (hq : M[i]? = some q) {w w' : World} (h : Cuts15 keep M i w) (ht : Turn (fun k => k = q.2.b) w w') (hn : FA15 w' (cutP15 keep q.2)) : Cuts15 keep M (i + 1) w' := by
  intro j r hr
  by_cases e : j = i
  · subst e
    rw [hq] at hr
    cases hr
    rw [if_pos (Nat.lt_succ_self _)]
    exact hn
  · have hne : r.1 ≠ q.1 := fun he => by
      rcases Nat.lt_or_gt_of_ne e with h1 | h1
      · have := hu j i r q h1 hr hq
        rw [he, show ltN q.1 q.1 = false from rises_bytes.irr _] at this
        cases this
      · have := hu i j q r h1 hq hr
        rw [he, show ltN q.1 q.1 = false from rises_bytes.irr _] at this
        cases this
    have hbne := hap r (List.mem_of_getElem? hr) q (List.mem_of_getElem? hq) hne
    have h1 := h j r hr
    have hqi := h i q hq
    rw [if_neg (Nat.lt_irrefl _)] at hqi
    have hl : (if j < i + 1 then cutP15 keep r.2 else r.2) = (if j < i then cutP15 keep r.2 else r.2) := by
      by_cases h : j < i
      · rw [if_pos h, if_pos (by omega)]
      · rw [if_neg h, if_neg (by omega)]
    rw [hl]
    refine h1.turn ht (fun e2 => hbne ?_) (fun k hk e2 => ?_)
    · split at e2 <;> exact e2
    · subst e2
      obtain ⟨cs, hb⟩ := h1.row.typ hk
      exact absurd (box_typ15 hb hqi.box) (by decide)
theorem cut_files15 {keep : Int} {M : PM15} : fm15 PF15.f (fm15 (cutP15 keep) M) = (fm15 PF15.f M).map fun p => (p.1, cut15 keep p.2) := by
  unfold fm15
  rw [List.map_map, List.map_map]
  rfl
theorem cut_at15 {keep : Int} {M : PM15} : fm15 PF15.at (fm15 (cutP15 keep) M) = fm15 PF15.at M := by
  unfold fm15
  rw [List.map_map]
  rfl
/-- All are. -/
theorem PD15.cuts {keep : Int} {M : PM15} {w w' : World} {g : Nat} {left : Int} {down : Bool} (h : PD15 w g M left down) (ht : Turn (Boxes15 M) w w') (hc : Cuts15 keep M M.length w') : PD15 w' g (fm15 (cutP15 keep) M) left down := by
  obtain ⟨A, hb⟩ := h.box
  refine ⟨?_, fun q hq => ?_, fun q hq r hr hne => ?_⟩
  · rw [cut_at15]
    refine h.map.turn ht ?_ ?_
    · rintro ⟨q, hq, e⟩
      exact (h.files q hq).ne_disk (.inl rfl) hb e
    · rintro i cs hi ⟨q, hq, rfl⟩
      exact absurd (box_typ15 hi (h.files q hq).box) (by decide)
  · obtain ⟨q0, hq0, rfl⟩ := List.mem_map.1 hq
    obtain ⟨j, hj, e⟩ := List.mem_iff_getElem.1 hq0
    have := hc j q0 (by rw [List.getElem?_eq_getElem hj, e])
    rw [if_pos hj] at this
    exact this
  · obtain ⟨q0, hq0, rfl⟩ := List.mem_map.1 hq
    obtain ⟨r0, hr0, rfl⟩ := List.mem_map.1 hr
    obtain ⟨h1, h2⟩ := h.apart q0 hq0 r0 hr0 hne
    exact ⟨h1, fun k hk e => h2 k (by rw [← cut_own15 keep]; exact hk) (by rw [← cut_own15 keep]; exact e)⟩
theorem cut_foot15 {keep : Int} {M : PM15} {g k : Nat} (h : Foot15 g (fm15 (cutP15 keep) M) k) : Foot15 g M k := by
  rcases h with e | ⟨q, hq, e⟩
  · exact .inl e
  · obtain ⟨q0, hq0, rfl⟩ := List.mem_map.1 hq
    refine .inr ⟨q0, hq0, ?_⟩
    rcases e with e | e
    · exact .inl e
    · exact .inr (by rw [← cut_own15 keep]; exact e)

set_option maxHeartbeats 8000000 in
theorem crash_any15 (keep : Int) {w : World} {F : Nat → Prop} {g : Nat} {d : D15} (hm : DM15 w F g d) (hbd : BdP15 d) (hk : (Lit.int .i64 keep).wf = true) :
    Calls Try.prog 24 #[.pointer (some ⟨g, 0, none⟩), .int .i64 keep] w fun e w' => DoesP15 DM15 w F g (crash15 d keep) (.tuple #[]) e w' := by
  obtain ⟨M, rfl, h, e⟩ := hm
  have HD := Lib.hid h
  have HE := Lib.hid e
  have HFC : Hid (∀ (p : List UInt8 × PF15), p ∈ M → ∀ W, FA15 W p.2 → Calls Try.prog 47 #[.pointer (some ⟨p.2.b, 0, none⟩), .int .i64 keep] W fun e w' => e = .returned (.tuple #[]) ∧ Turn (fun k => k = p.2.b) W w' ∧ FA15 w' (cutP15 keep p.2)) := fun p hp W hf => by
    obtain ⟨h1, h2⟩ := hbd.ok.files (p.1, p.2.f) (by rw [← e]; exact List.mem_map.2 ⟨p, hp, rfl⟩)
    exact fcrash_any15 keep hk hf h1 h2
  obtain ⟨q, hq⟩ : ∃ q, q = w.heap.size := ⟨_, rfl⟩
  obtain ⟨w1, hw1⟩ : ∃ w1, w1 = w.alloc (.cells #[.int .i64 keep] 3) := ⟨_, rfl⟩
  have HB1 : Hid (Box w1 q 3 #[.int .i64 keep]) := by rw [hw1, hq]; exact Box.new w _ _
  have HT1 : Hid (Turn (fun _ => False) w w1) := by rw [hw1]; exact (Turn.refl _ w).alloc _
  have HQ := Lib.hid hq
  have HW1 := Lib.hid hw1
  clear h e hbd hq hw1 hk
  refine (callsIn_wide (n := 5)).1 ?_
  refine callsIn_of_wp_marks Try.func24 rfl trivial ?_ rfl
  simp only [Try.ntmps24, List.size_toArray, List.length_cons, List.length_nil, Nat.reduceAdd, Nat.reduceSub, Array.replicate_succ, Array.replicate_zero, List.push_toArray, List.append_toArray, List.nil_append, List.cons_append]
  refine wpIn_wide.2 ?_
  go_wp2_with fail
  rw [← HW1.out, ← HQ.out]
  refine (omp.all_any (HD.out.later HT1.out).map).mono ?_
  rintro e w5 ⟨q1, q2, rfl, hr⟩
  have HRA := Lib.hid hr
  have HB5 := Lib.hid (HB1.out.turn hr.turn (fun f => f))
  have HTW5 : Hid (Turn (fun _ => False) w w5) := HT1.out.trans hr.turn (fun _ _ f => f)
  have HD5 := Lib.hid (HD.out.later HTW5.out)
  obtain ⟨A5, x5, hq1, hq2, -, -⟩ := hr.out
  have HBX : Hid (∀ k, Boxes15 M k → ∃ cs, Box w5 k 67 cs) := fun k ⟨r, hr, e⟩ => by subst e; exact ⟨_, (HD5.out.files r hr).box⟩
  have HBW : Hid (∀ k, Boxes15 M k → k < w.heap.size) := fun k ⟨r, hr, e⟩ => by subst e; exact (HD.out.files r hr).box.lt
  have HQQ : Hid (q1 < w5.heap.size ∧ q2 < w5.heap.size ∧ w.heap.size ≤ q1 ∧ w.heap.size ≤ q2) := by
    have h1 := HT1.out.size
    exact ⟨hq1.lt, hq2.lt, Nat.le_trans h1 hr.new1, Nat.le_trans h1 hr.new2⟩
  have HS1 : Hid (¬ (Boxes15 M q1 ∨ q1 = w5.heap.size + 1)) := by
    rintro (e | e)
    · have := HBW.out _ e; have := HQQ.out; omega
    · have := HQQ.out; omega
  have HS2 : Hid (¬ (Boxes15 M q2 ∨ q2 = w5.heap.size + 1)) := by
    rintro (e | e)
    · have := HBW.out _ e; have := HQQ.out; omega
    · have := HQQ.out; omega
  have HSL : Hid (∀ k, (Boxes15 M k ∨ k = w5.heap.size + 1) → k < w5.heap.size + 2) := by
    rintro k (e | e)
    · obtain ⟨cs', hb'⟩ := HBX.out _ e; have := hb'.lt; omega
    · omega
  have HC0 : Hid (Cuts15 keep M 0 w5) := fun j r hr => by rw [if_neg (Nat.not_lt_zero _)]; exact HD5.out.files r (List.mem_of_getElem? hr)
  clear hr hq1 hq2
  unfold omp.RisV
  go_wp2_with fail
  refine (wpIn_wide (n := 5)).1 ?_
  refine' over2 (n := 5) (by omega) (gf := 62) (lb := #[.pointer (some ⟨q1, 0, none⟩), .pointer (some ⟨q2, 0, none⟩)]) rfl (enters_of Try.func62 (by kernel_rfl) rfl)
    (omp.all_feeds 4 HRA.out (fun k => Boxes15 M k ∨ k = w5.heap.size + 1) HS1.out HS2.out ⟨fun i cs hb e => by
      rcases e with e | e
      · obtain ⟨cs', hb'⟩ := HBX.out _ e
        exact absurd (box_typ15 hb hb') (by decide)
      · have := hb.lt; omega⟩) (Turn.refl _ _) (Or.inr rfl) HSL.out (fun pre => fun _ _ _ h _ => h) (fun _ => rfl)
    (fun (pre : List ((List UInt8) × (Option Addr))) V => Cuts15 keep M pre.length V ∧ Turn (Boxes15 M) w5 V)
    (fun _ _ _ => False) (Holds.and (fun s A B hs ht j r hr => (hs j r hr).odd ht) (holds_turn (fun k h1 h2 => by omega))) (fun _ _ _ _ h _ => h) ⟨HC0.out, Turn.refl _ _⟩ _ ?assign ?body ?done ?stop
  case assign =>
    intro l0 x W K hK
    have HK := Lib.hid hK; clear hK
    gi_wp2
    exact HK.out
  case stop =>
    rintro D c0 pre V _ _ h _
    exact h.elim
  case body =>
    rintro l0 pre y V ⟨hc, ht⟩ hgv
    obtain ⟨p, hp, rfl⟩ := fm_at15 (pre_at10 hgv).1
    have hmem := List.mem_of_getElem? hp
    have hfp := hc pre.length p hp
    rw [if_neg (Nat.lt_irrefl _)] at hfp
    have HFP := Lib.hid (HFC.out p hmem V hfp)
    have hbv := HB5.out.turn ht (fun e => by obtain ⟨cs', hb'⟩ := HBX.out _ e; exact absurd (box_typ15 hb' HB5.out) (by decide))
    have x0 := hbv.cell 0
    have HC := Lib.hid hc; have HTV := Lib.hid ht; have HP := Lib.hid hp; have HMM := Lib.hid hmem
    have hl1 : (pre ++ [(p.1, PF15.at p.2)]).length = pre.length + 1 := by rw [List.length_append]; rfl
    have HL1 := Lib.hid hl1
    clear hl1 hc ht hgv hp hmem hfp hbv
    unfold PF15.at
    dsimp only
    gi_wp2_with fail
    refine (CallsIn.inRound l0 (callsIn_wide.2 HFP.out)).mono ?_
    rintro e V2 ⟨rfl, tv, hn⟩
    have HTN := Lib.hid tv; have HN := Lib.hid hn
    clear tv hn x0
    gi_wp2
    have tb : Turn (Boxes15 M) V V2 := HTN.out.mono (fun k _ e => ⟨p, HMM.out, e.symm⟩)
    refine ⟨?_, tb.mono (fun _ _ e => .inl e), ?_, HTV.out.trans tb (fun _ _ e => e)⟩
    · refine ⟨HTN.out.size, fun k o _ hk ho => (HTN.out.block k (Array.getElem?_eq_some_iff.1 hk).1 (fun e => ?_)).trans hk⟩
      subst e
      have h9 := HC.out pre.length p HP.out
      rw [if_neg (Nat.lt_irrefl _)] at h9
      rw [show V.heap[p.2.b]? = _ from h9.box] at hk
      cases hk
      cases ho
    · rw [show (pre ++ [(p.1, (some ⟨p.2.b, 0, none⟩ : Option Addr))]).length = pre.length + 1 from HL1.out]
      exact cuts_next15 (fun a ha b hb hne => (HD.out.apart a ha b hb hne).1) HD.out.up HP.out HC.out HTN.out HN.out
  case done =>
    rintro D xs V hD hA ⟨hc, ht⟩ hK
    subst hA
    rw [fm_len15] at hc
    have hpd := HD5.out.cuts ht hc
    obtain ⟨A, hb, hroot⟩ := hpd.root
    have HR := Lib.hid hroot
    have z1 := hb.cell 1; have z2 := hb.cell 2; have y1 := hb.free 1; have y2 := hb.free 2
    have hb2 := (hb.set 1 (.int .i64 0)).set 2 (.bool false)
    simp only [List.setIfInBounds_toArray, List.set_cons_zero, List.set_cons_succ] at hb2
    have HBZ := Lib.hid hb2
    have HTV := Lib.hid ht; have HKD := Lib.hid hK; have HDD := Lib.hid hD
    clear hb hroot hb2 hpd hc ht hK hD
    go_wp2
    obtain ⟨V9, hV9⟩ : ∃ V9, V9 = (V.setCell ⟨g, 1, none⟩ (.int .i64 0)).setCell ⟨g, 2, none⟩ (.bool false) := ⟨_, rfl⟩
    have t9 : Turn (fun k => k = g) V V9 := by rw [hV9]; exact ((Turn.refl (fun k => k = g) V).setCell (p := ⟨g, 1, none⟩) (fun _ => rfl) _).setCell (p := ⟨g, 2, none⟩) (fun _ => rfl) _
    have hb9 := HBZ.out
    rw [← hV9] at hb9 ⊢
    have hp9 := HR.out _ V9 0 false t9 (fun _ e => e) hb9
    have hDw := HDD.out
    have hsz := HTW5.out.size
    have k1 : V9.heap[D]? = some (.deferred (some [])) := (t9.block D (Array.getElem?_eq_some_iff.1 HKD.out).1 (fun e => by
      obtain ⟨A0, hb0⟩ := HD.out.box
      have := hb0.lt
      omega)).trans HKD.out
    have u1 : Turn (fun k => k = D) V9 (V9.putObj D (.deferred none)) := Turn.putObj _ D _ rfl
    have hpF : PD15 (V9.putObj D (.deferred none)) g (fm15 (cutP15 keep) M) 0 false := hp9.turn u1 (fun k hk e => by
      subst e
      obtain ⟨cs, h1 | h1 | h1⟩ := hp9.typ hk <;> (rw [show V9.heap[k]? = _ from h1] at k1; cases k1)) (fun i cs hi e => by
      subst e
      rw [show V9.heap[i]? = _ from hi] at k1
      cases k1)
    refine ⟨by simp, .inl ⟨_, _, rfl, run_takeDeferred k1, ?_⟩⟩
    refine ⟨.tuple #[], ?_, ?_⟩
    · simp [results, Try.f24, go_sem]
    · refine ⟨rfl, Foot15 g (fm15 (cutP15 keep) M), ⟨_, rfl, hpF, ?_⟩, ?_, fun k hk => .inl (cut_foot15 hk)⟩
      · rw [cut_files15, HE.out]
        rfl
      · refine (((HTW5.out.mono (fun _ _ f => f.elim)).trans HTV.out (fun k _ e => ?_)).trans t9 (fun _ _ e => .inl e)).trans u1 (fun k hk e => ?_)
        · obtain ⟨r, hr, e⟩ := e
          exact .inr ⟨r, hr, .inl e⟩
        · omega

end Go.Proofs.Ytclljogbingjiaa

/-
  Stage 15: the program's disk answers as is asked of it; so does a nil one.
-/
namespace Go.Proofs.Ytclljogbingjiaa
open Go.RowKit

set_option maxRecDepth 100000

theorem prog15 : Prog15 DM15 where
  lt := dm_lt15
  later := dm_later15
  apart := dm_apart15
  new := new_any15
  app n v b h hb hv _ _ := append_any15 n v b h hb hv
  sync n h hb := sync_any15 n h hb
  ren n m h hb := rename_any15 n m h hb
  rem n h hb := remove_any15 n h hb
  read n h hb := read_any15 n h hb
  arm n h _ _ := arm_any15 n h
  crash n h hb hn := crash_any15 n h hb hn
  down h _ := down_any15 h
  bytes h hb := bytes_any15 h hb
  has n h _ := has_any15 n h
  loose n h hb := loose_any15 n h hb
  names h hb := names_any15 h hb

theorem nil15 : Nil15 where
  app n w := by
    go_enter Try.func21, Try.ntmps21
    go_wp2_with (go_at_call 40; refine (refuses_nil15 _).mono ?_; rintro e w' ⟨rfl, rfl⟩)
    go_ret; exact ⟨rfl, Turn.refl _ _⟩
  sync n w := by
    go_enter Try.func23, Try.ntmps23
    go_wp2_with (go_at_call 45; refine (open_nil15 _ _).mono ?_; rintro e w' ⟨rfl, rfl⟩)
    go_ret; exact ⟨rfl, (Turn.refl _ _).alloc _⟩
  ren n m w := by
    go_enter Try.func26, Try.ntmps26
    go_wp2_with (go_at_call 40; refine (refuses_nil15 _).mono ?_; rintro e w' ⟨rfl, rfl⟩)
    go_ret; exact ⟨rfl, (((Turn.refl _ _).alloc _).alloc _).alloc _⟩
  rem n w := by
    go_enter Try.func27, Try.ntmps27
    go_wp2_with (go_at_call 45; refine (open_nil15 _ _).mono ?_; rintro e w' ⟨rfl, rfl⟩)
    go_ret; exact ⟨rfl, ((Turn.refl _ _).alloc _).alloc _⟩
  read n w := by
    go_enter Try.func25, Try.ntmps25
    go_wp2_with (go_at_call 45; refine (open_nil15 _ _).mono ?_; rintro e w' ⟨rfl, rfl⟩)
    go_ret2; exact ⟨_, rfl, Rd.none _, Turn.refl _ _⟩
  arm n w := by
    go_enter Try.func22, Try.ntmps22
    go_wp2_with (go_at_call 40; refine (refuses_nil15 _).mono ?_; rintro e w' ⟨rfl, rfl⟩)
    go_ret; exact ⟨rfl, Turn.refl _ _⟩
  crash n w := by
    go_enter Try.func24, Try.ntmps24
    go_wp2; go_end0; exact ⟨rfl, (Turn.refl _ _).alloc _⟩
  down w := by
    go_enter Try.func11, Try.ntmps11
    go_wp2; go_ret; exact ⟨rfl, Turn.refl _ _⟩
  bytes w := by
    go_enter Try.func12, Try.ntmps12
    go_wp2; go_ret; exact ⟨rfl, Turn.refl _ _⟩
  has n w := by
    go_enter Try.func14, Try.ntmps14
    go_wp2_with (go_at_call 36; refine (find_nil15 _ _).mono ?_; rintro e w' ⟨rfl, rfl⟩)
    go_ret; exact ⟨rfl, Turn.refl _ _⟩
  loose n w := by
    go_enter Try.func16, Try.ntmps16
    go_wp2_with (go_at_call 36; refine (find_nil15 _ _).mono ?_; rintro e w' ⟨rfl, rfl⟩)
    go_ret; exact ⟨rfl, Turn.refl _ _⟩
  names w := by
    go_enter Try.func19, Try.ntmps19
    go_wp2; go_ret; exact ⟨_, rfl, RdE.nil _, Turn.refl _ _⟩

end Go.Proofs.Ytclljogbingjiaa
