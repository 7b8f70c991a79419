
/-
  The cell of values, by the program and by the document.
-/
import Derived.Test.YtghplmgpnnaofaaMc
import Derived.Deep.RegionHeld3
namespace Go.Proofs.Ytghplmgpnnaofaa
open Go.RowKit

/-- A cell's numbers, in memory. -/
def ca (c : Cl) : Array Value := #[.int .i64 c.n, .int .i64 c.s, .int .i64 c.lo, .int .i64 c.hi]
theorem box_cells {w : World} {g : Nat} {t : TypeId} {n s lo hi : Int} (h : Box w g t (ca ⟨n, s, lo, hi⟩)) :
    (w.cell? ⟨g, 0, none⟩ = some (.int .i64 n) ∧ w.cell? ⟨g, 1, none⟩ = some (.int .i64 s) ∧ w.cell? ⟨g, 2, none⟩ = some (.int .i64 lo) ∧ w.cell? ⟨g, 3, none⟩ = some (.int .i64 hi)) ∧
    (w.frozen? ⟨g, 0, none⟩ = false ∧ w.frozen? ⟨g, 1, none⟩ = false ∧ w.frozen? ⟨g, 2, none⟩ = false ∧ w.frozen? ⟨g, 3, none⟩ = false) :=
  ⟨⟨h.cell 0, h.cell 1, h.cell 2, h.cell 3⟩, ⟨h.free 0, h.free 1, h.free 2, h.free 3⟩⟩
theorem box_set4 {w : World} {g : Nat} {t : TypeId} {c : Cl} {n s lo hi : Int} (h : Box w g t (ca c)) :
    Box ((((w.setCell ⟨g, 0, none⟩ (.int .i64 n)).setCell ⟨g, 1, none⟩ (.int .i64 s)).setCell ⟨g, 2, none⟩ (.int .i64 lo)).setCell ⟨g, 3, none⟩ (.int .i64 hi)) g t (ca ⟨n, s, lo, hi⟩) :=
  (((h.set 0 _).set 1 _).set 2 _).set 3 _
theorem turn_set4 {S : Nat → Prop} {w0 w : World} {g : Nat} {a b c d : Value} (h : Turn S w0 w) (hg : g < w0.heap.size → S g) :
    Turn S w0 ((((w.setCell ⟨g, 0, none⟩ a).setCell ⟨g, 1, none⟩ b).setCell ⟨g, 2, none⟩ c).setCell ⟨g, 3, none⟩ d) :=
  (((h.setCell hg _).setCell hg _).setCell hg _).setCell hg _

/-- Behind a value put to a cell in memory. -/
def PAdd (g : Nat) (o : Option Cl) (w : World) (e : Ending) (w' : World) : Prop :=
  e = .returned (.bool o.isSome) ∧ Box w' g 25 (ca (o.getD Cl.zero)) ∧ Turn (fun k => k = g) w w'

theorem outC_shape (o : Option Cl) : ∃ n s lo hi, outC o = .tuple #[.agg #[.int .i64 n, .int .i64 s, .int .i64 lo, .int .i64 hi], .bool o.isSome] ∧ o.getD Cl.zero = ⟨n, s, lo, hi⟩ := by
  cases o with
  | none => exact ⟨0, 0, 0, 0, rfl, rfl⟩
  | some c => exact ⟨c.n, c.s, c.lo, c.hi, rfl, rfl⟩

set_option maxRecDepth 100000 in
set_option maxHeartbeats 2000000 in
theorem add_any (g : Nat) (n s lo hi v : Int) (w : World) (hb : Box w g 25 (ca ⟨n, s, lo, hi⟩)) (hc : Hid (okC ⟨n, s, lo, hi⟩)) (hv : Hid (fit v = true)) :
    Calls Try.prog 16 #[.int .i64 v, .pointer (some ⟨g, 0, none⟩)] w (PAdd g (mergeC ⟨n, s, lo, hi⟩ (Cl.of v)) w) := by
  have HM := Lib.hid (merge_any n s lo hi 1 v v v · hc (Lib.hid (okC_of hv.out)))
  have he : mergeC ⟨n, s, lo, hi⟩ (Cl.of v) = mergeC ⟨n, s, lo, hi⟩ ⟨1, v, v, v⟩ := rfl
  rw [he]
  clear he
  generalize mergeC ⟨n, s, lo, hi⟩ ⟨1, v, v, v⟩ = o at *
  obtain ⟨n', s', lo', hi', ho, hg⟩ := outC_shape o
  rw [ho] at HM
  clear ho
  have HG := Lib.hid hg; clear hg
  obtain ⟨⟨c0, c1, c2, c3⟩, ⟨f0, f1, f2, f3⟩⟩ := box_cells hb
  have HB := Lib.hid hb; clear hb
  go_enter Try.func16, Try.ntmps16
  go_wp2_with fail
  go_region_with (first
    | (go_at_call 17; refine (of_any _ _).mono ?_; rintro e w' ⟨rfl, rfl⟩; obtain ⟨⟨b0, b1, b2, b3⟩, ⟨a0, a1, a2, a3⟩⟩ := box_cells (HB.out.alloc (.cells #[.int .i64 1, .int .i64 v, .int .i64 v, .int .i64 v] 25)))
    | (go_at_call 15; (with_reducible refine (HM.out _).mono ?_); rintro e w2 ⟨rfl, ht⟩; have HT := Lib.hid (((Turn.refl (fun _ => False) w).drew.alloc _).trans ht (fun _ _ f => f)); clear ht; obtain ⟨⟨d0, d1, d2, d3⟩, ⟨e0, e1, e2, e3⟩⟩ := box_cells (HB.out.turn HT.out (fun f => f))))
  all_goals go_wp2
  all_goals go_ret
  all_goals refine ⟨rfl, ?_, turn_set4 (HT.out.mono (fun _ _ f => f.elim)) (fun _ => rfl)⟩
  all_goals rw [HG.out]
  all_goals exact box_set4 (HB.out.turn HT.out (fun f => f))

/-- The cell of the values so far, in memory, and the place of the answer. -/
structure AS (w wr : World) (l : List Int) (k : Nat) (c : Cl) : Prop where
  row : Box wr (w.heap.size + 1) 25 (ca c)
  out : Box wr w.heap.size 25 (ca Cl.zero)
  turn : Turn (fun _ => False) w wr
  is : allC (l.take k) = some c
  ok : okC c
theorem as_start (w : World) (l : List Int) : AS w ((w.alloc (.cells #[.int .i64 0, .int .i64 0, .int .i64 0, .int .i64 0] 25)).alloc (.cells #[.int .i64 0, .int .i64 0, .int .i64 0, .int .i64 0] 25)) l 0 Cl.zero := by
  refine ⟨?_, (Box.new w _ _).alloc _, ((Turn.refl _ w).alloc _).alloc _, rfl, okC_zero⟩
  have h := Box.new (w.alloc (.cells #[.int .i64 0, .int .i64 0, .int .i64 0, .int .i64 0] 25)) 25 (ca Cl.zero)
  rw [show (w.alloc (.cells #[.int .i64 0, .int .i64 0, .int .i64 0, .int .i64 0] 25)).heap.size = w.heap.size + 1 by simp] at h
  exact h
theorem as_step {w wr w' : World} {l : List Int} {k : Nat} {c d : Cl} {x : Int} (h : AS w wr l k c) (hx : l[k]? = some x) (hf : fit x = true) (hm : mergeC c (Cl.of x) = some d)
    (hb : Box w' (w.heap.size + 1) 25 (ca d)) (ht : Turn (fun j => j = w.heap.size + 1) wr w') : AS w w' l (k + 1) d := by
  refine ⟨hb, h.out.turn ht (fun e => by omega), h.turn.trans ht (fun j hj e => by omega), ?_, okC_merge h.ok (okC_of hf) hm⟩
  rw [allC_take hx, h.is]
  exact hm
theorem all_no {l : List Int} {k : Nat} {c : Cl} {x : Int} (h : allC (l.take k) = some c) (hx : l[k]? = some x) (hm : mergeC c (Cl.of x) = none) : Ending.returned (.tuple #[cv Cl.zero, .bool false]) = .returned (outC (allC l)) := by
  have : allC (l.take (k + 1)) = none := by rw [allC_take hx, h]; exact hm
  rw [allC_none this]
  rfl
theorem all_yes {l : List Int} {k : Nat} {c : Cl} (h : allC (l.take k) = some c) (hk : k = l.length) : Ending.returned (.tuple #[cv c, .bool true]) = .returned (outC (allC l)) := by
  rw [hk, List.take_length] at h
  rw [h]
  rfl

set_option maxRecDepth 100000 in
set_option maxHeartbeats 2000000 in
theorem all_any (v : Value) (l : List Int) (w : World) (hv : RdN .i64 w v l) (hl : l.length ≤ 1000000) (hf : ∀ x ∈ l, fit x = true) :
    Calls Try.prog 7 #[v] w fun e w' => e = .returned (outC (allC l)) ∧ Turn (fun _ => False) w w' := by
  have HV := Lib.hid hv
  have HF := Lib.hid hf; clear hf
  obtain ⟨A, c, rfl, _⟩ := hv
  go_enter Try.func7, Try.ntmps7
  go_wp2_with fail
  go_loopw [11] (fun x11 wr => ∃ (k : Nat) (c : Cl), x11 = .int .i64 k ∧ k ≤ l.length ∧ AS w wr l k c) (fun x11 _ => l.length - (intOf x11).toNat)
  case atStart => exact ⟨0, Cl.zero, rfl, Nat.zero_le _, as_start w l⟩
  case round =>
    obtain ⟨k, ⟨n, s, lo, hi⟩, rfl, hk, has⟩ := hrel
    have HAS := Lib.hid has; clear has
    by_cases hlt : k < l.length
    · obtain ⟨x, hx⟩ : ∃ x, l[k]? = some x := ⟨_, List.getElem?_eq_getElem hlt⟩
      obtain ⟨ad, rfl, hcell⟩ := (HV.out.later HAS.out.turn).at hx
      have HX := Lib.hid hx; clear hx
      have HFX : Hid (fit x = true) := HF.out x (List.mem_of_getElem? HX.out)
      have HC := Lib.hid (add_any (w.heap.size + 1) n s lo hi x wr HAS.out.row (Lib.hid HAS.out.ok) HFX)
      cases hm : mergeC ⟨n, s, lo, hi⟩ (Cl.of x) with
      | none =>
        rw [hm] at HC
        have HR := Lib.hid (all_no HAS.out.is HX.out hm); clear hm
        go_wp2_with (go_at_call 16; (with_reducible refine HC.out.mono ?_); rintro e w' ⟨rfl, hb, ht⟩; have HT := Lib.hid ht; clear ht hb; obtain ⟨⟨d0, d1, d2, d3⟩, ⟨e0, e1, e2, e3⟩⟩ := box_cells (HAS.out.out.turn HT.out (fun e => by omega)))
        refine bodyPost_ret (v := .tuple #[.agg #[.int .i64 0, .int .i64 0, .int .i64 0, .int .i64 0], .bool false]) ?_ rfl ⟨HR.out, turn_set4 (HAS.out.turn.trans HT.out (fun j hj e => by omega)) (fun e => absurd e (Nat.lt_irrefl _))⟩
        rw [results_cell_tmp rfl]
        go_simp
      | some d =>
        rw [hm] at HC
        have HM := Lib.hid hm; clear hm
        go_wp2_with (go_at_call 16; (with_reducible refine HC.out.mono ?_); rintro e w' ⟨rfl, hb, ht⟩; have HT := Lib.hid ht; have HB := Lib.hid hb; clear ht hb)
        go_roundw
        case rel => exact ⟨k + 1, d, by go_num, by omega, as_step HAS.out HX.out HFX.out HM.out HB.out HT.out⟩
        case measure => simp [intOf]; omega
    · have HR := Lib.hid (all_yes HAS.out.is (by omega))
      obtain ⟨⟨c0, c1, c2, c3⟩, ⟨f0, f1, f2, f3⟩⟩ := box_cells HAS.out.row
      obtain ⟨⟨d0, d1, d2, d3⟩, ⟨e0, e1, e2, e3⟩⟩ := box_cells HAS.out.out
      go_wp2
      refine bodyPost_ret (v := .tuple #[.agg #[.int .i64 n, .int .i64 s, .int .i64 lo, .int .i64 hi], .bool true]) ?_ rfl ⟨HR.out, turn_set4 HAS.out.turn (fun e => absurd e (Nat.lt_irrefl _))⟩
      rw [results_cell_tmp rfl]
      go_simp

theorem new_one {w w3 : World} {o : Obj} (h : Turn (fun _ => False) ((w.alloc (.cells #[.int .i64 0, .int .i64 0, .int .i64 0, .int .i64 0] 25)).alloc o).drew w3) : Box w3 w.heap.size 25 (ca ⟨0, 0, 0, 0⟩) :=
  Box.turn (Box.turn ((Box.new w _ _).alloc o) (Turn.refl (fun _ => False) _).drew (fun f => f)) h (fun f => f)
theorem new_two {w w3 : World} {o : Obj} (h : Turn (fun _ => False) ((w.alloc o).alloc (.cells #[.int .i64 0, .int .i64 0, .int .i64 0, .int .i64 0] 25)).drew w3) : Box w3 (w.heap.size + 1) 25 (ca ⟨0, 0, 0, 0⟩) := by
  have hb := Box.new (w.alloc o) 25 (ca Cl.zero)
  rw [show (w.alloc o).heap.size = w.heap.size + 1 by simp] at hb
  exact Box.turn (Box.turn hb (Turn.refl (fun _ => False) _).drew (fun f => f)) h (fun f => f)

theorem as_keep {w : World} {g k : Nat} {n s lo hi x : Int} {ad : Addr} (hb : Box w g 25 (ca ⟨n, s, lo, hi⟩)) (hc : w.cell? (ad.add k) = some (.int .i64 x)) (w' : World) (ht : Turn (fun _ => False) w w') :
    (w'.cell? ⟨g, 0, none⟩ = some (.int .i64 n) ∧ w'.cell? ⟨g, 1, none⟩ = some (.int .i64 s) ∧ w'.cell? ⟨g, 2, none⟩ = some (.int .i64 lo) ∧ w'.cell? ⟨g, 3, none⟩ = some (.int .i64 hi) ∧ w'.cell? (ad.add k) = some (.int .i64 x)) ∧ Turn (fun _ => False) w w' := by
  have hb' := hb.turn ht (fun f => f)
  refine ⟨⟨hb'.cell 0, hb'.cell 1, hb'.cell 2, hb'.cell 3, ?_⟩, ht⟩
  rw [ht.cell (World.block_lt_of_cell? w _ hc) (fun f => f)]
  exact hc

set_option maxRecDepth 100000 in
set_option maxHeartbeats 8000000 in
theorem ref_all5 (v : Value) (l : List Int) (w : World) (hv : RdN .i64 w v l) (hl : l.length ≤ 1000000) (hf : ∀ x ∈ l, fit x = true) :
    Calls Try.prog 8 #[v] w fun e w' => e = .returned (outC (allC l)) ∧ Turn (fun _ => False) w w' := by
  have HV := Lib.hid hv
  have HF := Lib.hid hf; clear hf
  obtain ⟨A, c, rfl, _⟩ := hv
  go_enter Try.func8, Try.ntmps8
  go_wp2_with fail
  go_loopw [5] (fun x5 wr => ∃ (k : Nat) (c : Cl), x5 = .int .i64 k ∧ k ≤ l.length ∧ AS w wr l k c) (fun x5 _ => l.length - (intOf x5).toNat)
  case atStart => exact ⟨0, Cl.zero, rfl, Nat.zero_le _, as_start w l⟩
  case round =>
    obtain ⟨k, ⟨n, s, lo, hi⟩, rfl, hk, has⟩ := hrel
    have HAS := Lib.hid has; clear has
    by_cases hlt : k < l.length
    · obtain ⟨x, hx⟩ : ∃ x, l[k]? = some x := ⟨_, List.getElem?_eq_getElem hlt⟩
      obtain ⟨ad, rfl, hcell⟩ := (HV.out.later HAS.out.turn).at hx
      have HX := Lib.hid hx; clear hx
      have HFX : Hid (fit x = true) := HF.out x (List.mem_of_getElem? HX.out)
      have HC := Lib.hid (ref_merge n s lo hi 1 x x x · (Lib.hid HAS.out.ok) (Lib.hid (okC_of HFX.out)))
      have HK := Lib.hid (as_keep (k := k) HAS.out.row hcell)
      obtain ⟨o, ho⟩ : ∃ o, o = mergeC ⟨n, s, lo, hi⟩ ⟨1, x, x, x⟩ := ⟨_, rfl⟩
      rw [← ho] at HC
      obtain ⟨n', s', lo', hi', ho2, hg⟩ := outC_shape o
      rw [ho2] at HC
      have HG := Lib.hid hg
      have HO := Lib.hid ho
      clear ho ho2 hg
      obtain ⟨b, hb⟩ : ∃ b, b = o.isSome := ⟨_, rfl⟩
      rw [← hb] at HC
      have HBB := Lib.hid hb; clear hb
      go_wp2_with fail
      go_region_held3 (fun w' => (w'.cell? ⟨w.heap.size + 1, 0, none⟩ = some (.int .i64 n) ∧ w'.cell? ⟨w.heap.size + 1, 1, none⟩ = some (.int .i64 s) ∧ w'.cell? ⟨w.heap.size + 1, 2, none⟩ = some (.int .i64 lo) ∧ w'.cell? ⟨w.heap.size + 1, 3, none⟩ = some (.int .i64 hi) ∧ w'.cell? (ad.add k) = some (.int .i64 x)) ∧ Turn (fun _ => False) wr w')
        ((refine HK.out _ ?_; repeat (first | with_reducible exact Turn.refl _ wr | with_reducible exact HT.out | with_reducible refine Turn.drew ?_ | with_reducible refine Turn.alloc ?_ _ | with_reducible refine Turn.setCell ?_ (by intro e; dsimp only at e; first | omega | (have := HT.out.size; omega)) _)))
        (first
          | (go_at_call 19; refine (ref_of _ _).mono ?_; rintro e w' ⟨rfl, rfl⟩)
          | (go_at_call 18; (with_reducible refine (HC.out _).mono ?_); rintro e w3 ⟨rfl, ht⟩; (first | ((with_reducible have HZ := Lib.hid (new_one (w := wr) (w3 := w3) ht)); obtain ⟨⟨z0, z1, z2, z3⟩, ⟨y0, y1, y2, y3⟩⟩ := box_cells HZ.out) | ((with_reducible have HY := Lib.hid (new_two (w := wr) (w3 := w3) ht)); obtain ⟨⟨z0, z1, z2, z3⟩, ⟨y0, y1, y2, y3⟩⟩ := box_cells HY.out) | skip); have HT := Lib.hid (Turn.trans (T := fun _ => False) (S := fun _ => False) (a := wr) (by repeat (first | with_reducible exact Turn.refl _ wr | with_reducible refine Turn.drew ?_ | with_reducible refine Turn.alloc ?_ _)) ht (fun _ _ f => f)); have HTT := Lib.hid ht; clear ht))
      all_goals first
        | (have hB := box_set4 (n := n') (s := s') (lo := lo') (hi := hi') HZ.out
           have hT := turn_set4 (a := .int .i64 n') (b := .int .i64 s') (c := .int .i64 lo') (d := .int .i64 hi') HT.out (g := wr.heap.size) (fun e => absurd e (Nat.lt_irrefl _))
           generalize World.setCell (World.setCell (World.setCell (World.setCell w3 ⟨wr.heap.size, 0, none⟩ _) ⟨wr.heap.size, 1, none⟩ _) ⟨wr.heap.size, 2, none⟩ _) ⟨wr.heap.size, 3, none⟩ _ = W6 at hB hT ⊢)
        | (have hB := box_set4 (n := n') (s := s') (lo := lo') (hi := hi') HY.out
           have hT := turn_set4 (a := .int .i64 n') (b := .int .i64 s') (c := .int .i64 lo') (d := .int .i64 hi') HT.out (g := wr.heap.size + 1) (fun e => absurd e (by omega))
           generalize World.setCell (World.setCell (World.setCell (World.setCell w3 ⟨wr.heap.size + 1, 0, none⟩ _) ⟨wr.heap.size + 1, 1, none⟩ _) ⟨wr.heap.size + 1, 2, none⟩ _) ⟨wr.heap.size + 1, 3, none⟩ _ = W6 at hB hT ⊢)
        | (have hB := Box.new w3 25 (ca ⟨n', s', lo', hi'⟩)
           have hT := HT.out.alloc (.cells (ca ⟨n', s', lo', hi'⟩) 25)
           unfold ca at hB hT
           generalize World.alloc w3 _ = W6 at hB hT ⊢)
      all_goals obtain ⟨⟨p0, p1, p2, p3⟩, _⟩ := box_cells hB
      all_goals obtain ⟨⟨q0, q1, q2, q3⟩, ⟨g0, g1, g2, g3⟩⟩ := box_cells (HAS.out.row.turn hT (fun f => f))
      all_goals obtain ⟨⟨d0, d1, d2, d3⟩, ⟨e0, e1, e2, e3⟩⟩ := box_cells (HAS.out.out.turn hT (fun f => f))
      all_goals have HT6 := Lib.hid hT
      all_goals clear hB hT HT
      all_goals clear hcell HC HK
      all_goals try clear z0 z1 z2 z3 y0 y1 y2 y3
      all_goals cases o with
        | none =>
          have eb : b = false := HBB.out
          subst eb
          have HR := Lib.hid (all_no HAS.out.is HX.out HO.out.symm)
          go_wp2
          refine bodyPost_ret (v := .tuple #[.agg #[.int .i64 0, .int .i64 0, .int .i64 0, .int .i64 0], .bool false]) ?_ rfl ⟨HR.out, turn_set4 (HAS.out.turn.trans HT6.out (fun _ _ f => f)) (fun e => absurd e (Nat.lt_irrefl _))⟩
          rw [results_cell_tmp rfl]
          go_simp
        | some d =>
          have eb : b = true := HBB.out
          subst eb
          have ed : d = ⟨n', s', lo', hi'⟩ := HG.out
          subst ed
          go_wp2
          go_roundw
          case rel => exact ⟨k + 1, ⟨n', s', lo', hi'⟩, by go_num, by omega, as_step HAS.out HX.out HFX.out HO.out.symm (box_set4 (HAS.out.row.turn HT6.out (fun f => f))) (turn_set4 (HT6.out.mono (fun _ _ f => f.elim)) (fun _ => rfl))⟩
          case measure => simp [intOf]; omega
    · have HR := Lib.hid (all_yes HAS.out.is (by omega))
      obtain ⟨⟨c0, c1, c2, c3⟩, ⟨f0, f1, f2, f3⟩⟩ := box_cells HAS.out.row
      obtain ⟨⟨d0, d1, d2, d3⟩, ⟨e0, e1, e2, e3⟩⟩ := box_cells HAS.out.out
      go_wp2
      refine bodyPost_ret (v := .tuple #[.agg #[.int .i64 n, .int .i64 s, .int .i64 lo, .int .i64 hi], .bool true]) ?_ rfl ⟨HR.out, turn_set4 HAS.out.turn (fun e => absurd e (Nat.lt_irrefl _))⟩
      rw [results_cell_tmp rfl]
      go_simp

end Go.Proofs.Ytghplmgpnnaofaa
