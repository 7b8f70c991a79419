/-
  'SegLooks': a segment's rows of any hours, as far as they are asked, any key's cell, and what all comes to. No condition.
-/
import Derived.Test.YtnnlgeldjjknmaaJocai
import Derived.Test.YtnnlgeldjjknmaaJocac
import Derived.Test.YtnnlgeldjjknmaaJocaf
import Derived.Test.YtnnlgeldjjknmaaJocab
import Derived.Test.YtnnlgeldjjknmaaJocad
import Derived.ProofKit
import Derived.OpenShut

/-
  Stage 11: what SegLooks keeps in memory; a key's cell by the last row that has it, plain.
-/
namespace Go.Proofs.Ytnnlgeldjjknmaa
open Go.RowKit

set_option maxRecDepth 100000

theorem find_app11 (k : K9) : ∀ (m n : List R11), findR k (m ++ n) = match findR k m with | some c => some c | none => findR k n
  | [], n => rfl
  | r :: m, n => by
    rw [List.cons_append]
    show (if r.k = k then some r.c else findR k (m ++ n)) = match (if r.k = k then some r.c else findR k m) with | some c => some c | none => findR k n
    by_cases h : r.k = k
    · rw [if_pos h, if_pos h]
    · rw [if_neg h, if_neg h]
      exact find_app11 k m n
/-- The last row that has a key is the first one, where keys rise. -/
theorem find_step11 {l : List R11} (hl : RiseR l) {i : Nat} {r : R11} (hr : l[i]? = some r) (k : K9) : findR k (l.take (i + 1)) = if r.k = k then some r.c else findR k (l.take i) := by
  obtain ⟨h1, h2⟩ := split_at11 hr
  rw [h1, find_app11]
  by_cases h : r.k = k
  · rw [if_pos h]
    have hn : findR k (l.take i) = none := by
      cases e : findR k (l.take i) with
      | none => rfl
      | some c =>
        have hm := find_mem e
        unfold RiseR at hl
        rw [h2, List.pairwise_append] at hl
        have h3 := hl.2.2 _ hm r (List.mem_cons_self ..)
        dsimp only at h3
        rw [h, key_irr] at h3
        cases h3
    rw [hn]
    simp [findR, h]
  · rw [if_neg h]
    cases findR k (l.take i) with
    | some c => rfl
    | none => simp [findR, h]
theorem findA_is11 (o : Option Cl) : findA o = .tuple #[cv (o.getD Cl.zero), .bool o.isSome] := by
  cases o <;> rfl
theorem outC_is11 (o : Option Cl) : outC o = .tuple #[cv (o.getD Cl.zero), .bool o.isSome] := by
  cases o <;> rfl
theorem range_none11 (l : List R11) (h : Int) : rangeR l h h = [] := by
  unfold rangeR
  rw [List.filter_eq_nil_iff]
  intro r _
  simp [inH]
theorem run_neq_cell11 (p q : Cl) (w : World) : (binOp .neq 47 (cv p) (cv q)).run Try.prog w = .ok (.bool (!decide (p = q))) w := by
  unfold cv
  rw [run_neq_struct, show (10000 : Nat) = 9998 + 2 from rfl]
  have h := eq_cell11 9998 p q w
  unfold cv at h
  rw [h]
  rfl
/-- The key, the number at which to stop, the answer: boxes at the head. -/
structure LK11 (w V : World) (k : K9) (stop : Int) : Prop where
  key : Box V w.heap.size 44 #[.int .i64 k.h, sv9 k.a, sv9 k.b, sv9 k.c, sv9 k.d]
  stp : Box V (w.heap.size + 1) 3 #[.int .i64 stop]
  res : Box V (w.heap.size + 2) 4 #[.bool false]
  turn : Turn (fun _ => False) w V
theorem LK11.later {w V V' : World} {k : K9} {stop : Int} (h : LK11 w V k stop) (ht : Turn (fun _ => False) V V') : LK11 w V' k stop :=
  ⟨h.key.turn ht (fun f => f), h.stp.turn ht (fun f => f), h.res.turn ht (fun f => f), h.turn.trans ht (fun _ _ f => f)⟩
theorem LK11.turned {w V V' : World} {k : K9} {stop : Int} {S : Nat → Prop} (h : LK11 w V k stop) (ht : Turn S V V') (hs : ∀ g, S g → w.heap.size + 3 ≤ g) : LK11 w V' k stop :=
  ⟨h.key.turn ht (fun e => by have := hs _ e; omega), h.stp.turn ht (fun e => by have := hs _ e; omega), h.res.turn ht (fun e => by have := hs _ e; omega), h.turn.trans ht (fun g hg e => by have := hs _ e; omega)⟩
theorem LK11.start (w : World) (k : K9) (stop : Int) : LK11 w (((w.alloc (.cells #[.int .i64 k.h, sv9 k.a, sv9 k.b, sv9 k.c, sv9 k.d] 44)).alloc (.cells #[.int .i64 stop] 3)).alloc (.cells #[.bool false] 4)) k stop := by
  refine ⟨((Box.new w _ _).alloc _).alloc _, ?_, ?_, (((Turn.refl _ w).alloc _).alloc _).alloc _⟩
  · have h := (Box.new (w.alloc (.cells #[.int .i64 k.h, sv9 k.a, sv9 k.b, sv9 k.c, sv9 k.d] 44)) 3 #[.int .i64 stop]).alloc (.cells #[.bool false] 4)
    rw [World.size_alloc] at h
    exact h
  · have h := Box.new ((w.alloc (.cells #[.int .i64 k.h, sv9 k.a, sv9 k.b, sv9 k.c, sv9 k.d] 44)).alloc (.cells #[.int .i64 stop] 3)) 4 #[.bool false]
    rw [World.size_alloc, World.size_alloc] at h
    exact h
theorem LK11.size {w V : World} {k : K9} {stop : Int} (h : LK11 w V k stop) : w.heap.size + 3 ≤ V.heap.size := h.res.lt

/-- In the range: how many rows have come, none the last one that is asked. -/
structure LkI (w17 : World) (nb : Nat) (stop : Int) (pre : List R11) (V : World) : Prop where
  turn : Turn (fun g => g = nb) w17 V
  num : Box V nb 3 #[.int .i64 (pre.length : Int)]
  not : ∀ m : Nat, 1 ≤ m → m ≤ pre.length → (m : Int) ≠ stop
theorem LkI.odd {w17 A B : World} {nb D : Nat} {stop : Int} {pre : List R11} (h : LkI w17 nb stop pre A) (hD : w17.heap.size ≤ D) (ht : Turn (odd D A) A B) : LkI w17 nb stop pre B :=
  ⟨h.turn.trans ht (fun k hk e => by have := e.1; omega), h.num.odd ht, h.not⟩
theorem LkI.later {w17 A B : World} {nb : Nat} {stop : Int} {pre : List R11} (h : LkI w17 nb stop pre A) (ht : Turn (fun _ => False) A B) : LkI w17 nb stop pre B :=
  ⟨h.turn.trans ht (fun _ _ f => f.elim), h.num.turn ht (fun f => f), h.not⟩
/-- .. at the row at which it ends. -/
structure LkX (w17 : World) (nb : Nat) (stop : Int) (pre : List R11) (V : World) : Prop where
  turn : Turn (fun g => g = nb) w17 V
  num : Box V nb 3 #[.int .i64 (pre.length : Int)]
  some : 1 ≤ pre.length
  last : (pre.length : Int) = stop
theorem LkX.odd {w17 A B : World} {nb D : Nat} {stop : Int} {pre : List R11} (h : LkX w17 nb stop pre A) (hD : w17.heap.size ≤ D) (ht : Turn (odd D A) A B) : LkX w17 nb stop pre B :=
  ⟨h.turn.trans ht (fun k hk e => by have := e.1; omega), h.num.odd ht, h.some, h.last⟩

end Go.Proofs.Ytnnlgeldjjknmaa

/-
  A region that draws, walked by hand in a function that holds a range over a function: no panic is owed. No type is named here.
-/
namespace Go.Proofs.Ytnnlgeldjjknmaa
open Go.RowKit

def calm (Q : Exit → Act → World → Prop) : Exit → Act → World → Prop
  | .panic _, _, _ => False
  | .normal, a, w => Q .normal a w
  | .ret, a, w => Q .ret a w
  | .exit c, a, w => Q (.exit c) a w
  | .goto t, a, w => Q (.goto t) a w
  | .outgrown, a, w => Q .outgrown a w
theorem calm_normal {Q : Exit → Act → World → Prop} {a : Act} {w : World} (h : Q .normal a w) : calm Q .normal a w := h
theorem drawn_region_calm {P : Program} {ops : Array Oper} {Q : Exit → Act → World → Prop} (S : World → Prop) (zs : List Nat) {id : Nat} {ts : Array Value} {ds : List Deferred} {w : World} (hm : P.follows .mixedOrders = true) (h : Drawn P ops (calm Q) S zs ops.size (Array.replicate ops.size false) ts ds w.drew) : (Code.region id ops true).wp P Q { tmps := ts, defers := ds } w :=
  Code.wp_mono (fun e a w h => by cases e <;> first | exact h | exact h.elim) (drawn_region S zs hm h)

end Go.Proofs.Ytnnlgeldjjknmaa

namespace Go.Proofs.Ytnnlgeldjjknmaa.segLooks
open Go.ChangeShapes Go.WideShapes Go.ChangeAt Go.RowKit
set_option linter.unusedVariables false

theorem own : ownKnob Try.prog.godebug = none := by kernel_rfl
theorem laidOut : laidOutB Try.prog = true := by kernel_rfl

open Go.Shelf
attribute [local go_sem] Oper.semAt_some wide_fn

set_option maxRecDepth 100000 in
set_option maxHeartbeats 16000000 in
theorem walk (v : Value) (l : List R11) (a : Int) (_wa : (Lit.int .i64 a).wf = true) (b : Int) (_wb : (Lit.int .i64 b).wf = true) (k : K9) (stop : Int) (_ws : (Lit.int .i64 stop).wf = true) (w : World) (h : RdE ER w v l) (hlen : l.length ≤ maxLen) (hok : ∀ r ∈ l, okC r.c) :
    Calls Try.prog 5 #[v, .int .i64 a, .int .i64 b, kv9 k, .int .i64 stop] w fun e w' => e = .returned (.bool true) ∧ Below w.heap.size w w' := by
  clear _wa _wb _ws
  have HV := Lib.hid h
  have HOK := Lib.hid hok
  have HL1 : Hid (∀ W, Turn (fun _ => False) w W → Calls Try.prog 9 #[v] W fun e w' => e = .returned (.bool (decide (l.length ≤ 100))) ∧ W = w') := fun W ht => (light_any11 v l W (h.later ht) hlen).mono fun _ _ ⟨p, q⟩ => ⟨p, q.symm⟩
  obtain ⟨A, c, rfl⟩ := h.shape
  unfold maxLen at hlen
  clear h hok
  refine (callsIn_wide (n := 5)).1 ?_
  refine callsIn_of_wp_marks Try.func5 rfl trivial ?_ rfl
  simp only [Try.ntmps5, List.size_toArray, List.length_cons, List.length_nil, Nat.reduceAdd, Nat.reduceSub, Array.replicate_succ, Array.replicate_zero, List.push_toArray, List.append_toArray, List.nil_append, List.cons_append]
  refine wpIn_wide.2 ?_
  obtain ⟨w0, hw0⟩ : ∃ w0, w0 = ((w.alloc (.cells #[.int .i64 k.h, sv9 k.a, sv9 k.b, sv9 k.c, sv9 k.d] 44)).alloc (.cells #[.int .i64 stop] 3)).alloc (.cells #[.bool false] 4) := ⟨_, rfl⟩
  have HW0 := Lib.hid hw0
  have HK0 : Hid (LK11 w w0 k stop) := by rw [hw0]; exact LK11.start w k stop
  clear hw0
  cases hda : decide (l.length ≤ 100) with
  | false =>
    rw [hda] at HL1
    go_wp2_with fail
    rw [← HW0.out]
    refine (alive_any11 w0).mono ?_
    rintro e w1 ⟨rfl, t1⟩
    have HK1 := Lib.hid (HK0.out.later t1)
    clear t1 HK0 HW0
    have HL2 := Lib.hid (HL1.out w1 HK1.out.turn)
    clear HL1
    go_wp2_with fail
    refine HL2.out.mono ?_
    rintro e wx ⟨rfl, hwx⟩
    subst hwx
    have HKx := HK1
    have HBR := Lib.hid HKx.out.res
    have hcr := HBR.out.cell 0
    have hfr := HBR.out.free 0
    go_wp2
    refine ⟨.bool true, ?_, rfl, ?_⟩
    · have h2 := (HBR.out.set 0 (.bool true)).cell 0
      simp [results, Try.f5, go_sem, h2]
    · exact (HKx.out.turn.setCell (p := ⟨w.heap.size + 2, 0, none⟩) (fun h => absurd h (by simp)) _).below (Nat.le_refl _) (fun _ f => f.elim)
  | true =>
  rw [hda] at HL1
  have h100 := of_decide_eq_true hda
  clear hda hlen
  have HRI : Hid (∀ W, Turn (fun _ => False) w W → Calls Try.prog 16 #[.slice A l.length c] W fun e w' => e = .returned (.bool (rightR l)) ∧ Turn (fun _ => False) W w') := fun W ht => ref_right11 _ l W (HV.out.later ht) (by omega)
  have HMD : Hid (∀ W, Turn (fun _ => False) w W → Calls Try.prog 18 #[.slice A l.length c] W fun e w' => Part11 W (if rightR l then l else []) e w') := fun W ht => made_any11 _ l W (HV.out.later ht) HOK.out (by omega)
  cases hR : rightR l with
  | false =>
    rw [hR] at HRI
    go_wp2_with fail
    rw [← HW0.out]
    refine (alive_any11 w0).mono ?_
    rintro e w1 ⟨rfl, t1⟩
    have HK1 := Lib.hid (HK0.out.later t1)
    clear t1 HK0 HW0
    have HL2 := Lib.hid (HL1.out w1 HK1.out.turn)
    clear HL1
    go_wp2_with fail
    refine HL2.out.mono ?_
    rintro e wx ⟨rfl, hwx⟩
    subst hwx
    go_wp2_with fail
    refine (HRI.out _ HK1.out.turn).mono ?_
    rintro e w2 ⟨rfl, t2⟩
    have HKx := Lib.hid (HK1.out.later t2)
    clear t2
    have HBR := Lib.hid HKx.out.res
    have hcr := HBR.out.cell 0
    have hfr := HBR.out.free 0
    go_wp2
    refine ⟨.bool true, ?_, rfl, ?_⟩
    · have h2 := (HBR.out.set 0 (.bool true)).cell 0
      simp [results, Try.f5, go_sem, h2]
    · exact (HKx.out.turn.setCell (p := ⟨w.heap.size + 2, 0, none⟩) (fun h => absurd h (by simp)) _).below (Nat.le_refl _) (fun _ f => f.elim)
  | true =>
  rw [hR] at HRI
  have HRS := Lib.hid (rightR_spec hR).1
  have HMD2 : Hid (∀ W, Turn (fun _ => False) w W → Calls Try.prog 18 #[.slice A l.length c] W fun e w' => Part11 W l e w') := fun W ht => by have h := HMD.out W ht; rwa [hR, if_pos rfl] at h
  clear hR HMD
  have HRG : Hid (∀ (x y : Int) W, Turn (fun _ => False) w W → Calls Try.prog 20 #[.slice A l.length c, .int .i64 x, .int .i64 y] W fun e w' => Rows11 W (rangeR l x y) e w') := fun x y W ht => ref_range11 _ l x y W (HV.out.later ht) (by omega)
  have HRT : Hid (∀ W, Turn (fun _ => False) w W → Calls Try.prog 23 #[.slice A l.length c] W fun e w' => e = .returned (outC (totalR Cl.zero l)) ∧ Turn (fun _ => False) W w') := fun W ht => ref_total11 _ l W (HV.out.later ht) HOK.out (by omega)
  obtain ⟨G, hG⟩ : ∃ G, G = rangeR l a b := ⟨_, rfl⟩
  have hgl : G.length ≤ 100 := by rw [hG]; exact Nat.le_trans (List.length_filter_le _ _) h100
  have HGG := Lib.hid hG
  clear hG
  go_wp2_with fail
  rw [← HW0.out]
  refine (alive_any11 w0).mono ?_
  rintro e w1 ⟨rfl, t1⟩
  have HK1 := Lib.hid (HK0.out.later t1)
  clear t1 HK0 HW0
  have HL2 := Lib.hid (HL1.out w1 HK1.out.turn)
  clear HL1
  go_wp2_with fail
  refine HL2.out.mono ?_
  rintro e wx ⟨rfl, hwx⟩
  subst hwx
  go_wp2_with fail
  refine (HRI.out _ HK1.out.turn).mono ?_
  rintro e w2 ⟨rfl, t2⟩
  have HK2 := Lib.hid (HK1.out.later t2)
  clear t2 HL2
  go_wp2_with fail
  refine (HMD2.out _ HK2.out.turn).mono ?_
  rintro e w3 ⟨s, rfl, hs, t3⟩
  obtain ⟨p, rfl⟩ := hs.ptr
  have HK3 := Lib.hid (HK2.out.later t3); have HS3 := Lib.hid hs
  clear hs t3
  go_wp2_with fail
  refine (HRG.out a b _ HK3.out.turn).mono ?_
  rintro e w4 ⟨u, rfl, hu, t4⟩
  rw [← HGG.out] at hu
  obtain ⟨B4, d4, e4⟩ := hu.shape
  subst e4
  have HK4 := Lib.hid (HK3.out.later t4); have HS4 := Lib.hid (HS3.out.later t4); have HU4 := Lib.hid hu
  clear hu t4
  obtain ⟨g12, hg12⟩ : ∃ g12, g12 = w4.heap.size := ⟨_, rfl⟩
  obtain ⟨w5, hw5⟩ : ∃ w5, w5 = w4.alloc (.cells #[.slice B4 G.length d4] 23) := ⟨_, rfl⟩
  have t45 : Turn (fun _ => False) w4 w5 := by rw [hw5]; exact (Turn.refl _ w4).alloc _
  have HB12 : Hid (Box w5 g12 23 #[.slice B4 G.length d4]) := by rw [hw5, hg12]; exact Box.new w4 _ _
  have HK5 := Lib.hid (HK4.out.later t45); have HS5 := Lib.hid (HS4.out.later t45); have HU5 := Lib.hid (HU4.out.later t45)
  have HW5 := Lib.hid hw5; have HG12 := Lib.hid hg12
  have hk5 := HK5.out.key
  have k0 : w5.cell? ⟨w.heap.size, 0, none⟩ = some (.int .i64 k.h) := hk5.cell 0
  have k1 : w5.cell? ⟨w.heap.size, 1, none⟩ = some (sv9 k.a) := hk5.cell 1
  have k2 : w5.cell? ⟨w.heap.size, 2, none⟩ = some (sv9 k.b) := hk5.cell 2
  have k3 : w5.cell? ⟨w.heap.size, 3, none⟩ = some (sv9 k.c) := hk5.cell 3
  have k4 : w5.cell? ⟨w.heap.size, 4, none⟩ = some (sv9 k.d) := hk5.cell 4
  rw [hw5] at k0 k1 k2 k3 k4
  clear hk5 hw5 hg12 t45
  go_wp2_with fail
  rw [← HW5.out, ← HG12.out]
  have HFN := Lib.hid (find_any11 (.pointer p) l k w5 HS5.out)
  rw [findA_is11] at HFN
  obtain ⟨⟨fn, fsu, flo, fhi⟩, hfc⟩ : ∃ c, c = (findR k l).getD Cl.zero := ⟨_, rfl⟩
  obtain ⟨fb, hfb⟩ : ∃ fb, fb = (findR k l).isSome := ⟨_, rfl⟩
  rw [← hfc, ← hfb] at HFN
  unfold cv at HFN
  dsimp only at HFN
  have HFC := Lib.hid hfc; have HFB := Lib.hid hfb
  clear hfc hfb k0 k1 k2 k3 k4
  refine HFN.out.mono ?_
  rintro e w6 ⟨rfl, t6⟩
  obtain ⟨g13, hg13⟩ : ∃ g13, g13 = w6.heap.size := ⟨_, rfl⟩
  obtain ⟨w7, hw7⟩ : ∃ w7, w7 = w6.alloc (.cells #[.int .i64 fn, .int .i64 fsu, .int .i64 flo, .int .i64 fhi] 47) := ⟨_, rfl⟩
  have HT57 : Hid (Turn (fun _ => False) w5 w7) := by rw [hw7]; exact t6.alloc _
  have HB13 : Hid (Box w7 g13 47 (ca ⟨fn, fsu, flo, fhi⟩)) := by rw [hw7, hg13]; exact Box.new w6 _ _
  have HK7 := Lib.hid (HK5.out.later HT57.out)
  have k0 : w7.cell? ⟨w.heap.size, 0, none⟩ = some (.int .i64 k.h) := HK7.out.key.cell 0
  have HW7 := Lib.hid hw7; have HG13 := Lib.hid hg13
  rw [hw7] at k0
  clear t6 hw7 hg13 HFN
  go_wp2_with fail
  rw [← HW7.out, ← HG13.out]
  refine (HRG.out k.h k.h _ HK7.out.turn).mono ?_
  rintro e w8 ⟨u8, rfl, hu8, t8⟩
  rw [range_none11] at hu8
  obtain ⟨B8, d8, e8⟩ := hu8.shape
  subst e8
  have HT58 := Lib.hid (HT57.out.trans t8 (fun _ _ f => f))
  have HK8 := Lib.hid (HK7.out.later t8); have HB13' := Lib.hid (HB13.out.turn t8 (fun f => f)); have HB12' := Lib.hid (HB12.out.turn HT58.out (fun f => f)); have HS8 := Lib.hid (HS5.out.later HT58.out); have HU8 := Lib.hid (HU5.out.later HT58.out)
  clear hu8 t8 k0 HK1 HK2 HK3 HK4 HK5 HK7 HS3 HS4 HS5 HU4 HU5 HB12 HB13 HT57 HT58 HW5 HG12 HW7 HG13 HMD2 HRI
  obtain ⟨g16, hg16⟩ : ∃ g16, g16 = w8.heap.size := ⟨_, rfl⟩
  obtain ⟨w9, hw9⟩ : ∃ w9, w9 = w8.alloc (.cells #[.int .i64 0, .int .i64 0, .int .i64 0, .int .i64 0] 47) := ⟨_, rfl⟩
  have HT89 : Hid (Turn (fun _ => False) w8 w9) := by rw [hw9]; exact (Turn.refl _ w8).alloc _
  have HB16 : Hid (Box w9 g16 47 (ca ((findR k (l.take 0)).getD Cl.zero))) := by rw [hw9, hg16, List.take_zero]; exact Box.new w8 _ _
  have HG16 : Hid (g16 = w8.heap.size) := hg16
  have HW9 := Lib.hid hw9
  have HF8 : Hid (∀ V, Turn (fun j => j = g16) w9 V → Turn (fun _ => False) w8 V) := fun V ht => HT89.out.trans ht (fun j hj e => by have := HG16.out; omega)
  clear hw9 hg16
  go_wp2_with fail
  rw [← HW9.out, ← HG16.out]
  clear HW9
  go_loopw [17, 18] (fun x17 x18 wr => ∃ i : Nat, x18 = .int .i64 (i : Int) ∧ i ≤ l.length ∧ x17 = .bool (findR k (l.take i)).isSome ∧ Box wr g16 47 (ca ((findR k (l.take i)).getD Cl.zero)) ∧ Turn (fun j => j = g16) w9 wr) (fun _ x18 _ => l.length - (intOf x18).toNat)
  case atStart => exact ⟨0, rfl, Nat.zero_le _, rfl, HB16.out, Turn.refl _ _⟩
  case round =>
    clear HB16
    obtain ⟨i, rfl, hi, rfl, hb, ht⟩ := hrel
    have HB := Lib.hid hb; have HTG := Lib.hid ht; have HT8 := Lib.hid (HF8.out _ ht)
    have HKR := Lib.hid (HK8.out.later HT8.out)
    clear hb ht
    by_cases hlt : i < l.length
    · obtain ⟨r, hr⟩ : ∃ r, l[i]? = some r := ⟨_, List.getElem?_eq_getElem hlt⟩
      obtain ⟨ad, rfl, hc⟩ := row_at11 HV.out hr
      have HST := Lib.hid (find_step11 HRS.out hr k)
      have hrw := hc wr HKR.out.turn
      unfold RowAt at hrw
      obtain ⟨a0, a1, a2, a3, a4, a5, a6, a7, a8⟩ := hrw
      have hk5 := HKR.out.key
      have k0 : wr.cell? ⟨w.heap.size, 0, none⟩ = some (.int .i64 k.h) := hk5.cell 0
      have k1 : wr.cell? ⟨w.heap.size, 1, none⟩ = some (sv9 k.a) := hk5.cell 1
      have k2 : wr.cell? ⟨w.heap.size, 2, none⟩ = some (sv9 k.b) := hk5.cell 2
      have k3 : wr.cell? ⟨w.heap.size, 3, none⟩ = some (sv9 k.c) := hk5.cell 3
      have k4 : wr.cell? ⟨w.heap.size, 4, none⟩ = some (sv9 k.d) := hk5.cell 4
      have hil : (i : Int) < l.length := by omega
      have heq := run_eql_key r.k k
      have hgd := fun X Y => guard_key9 .eql X Y r.k k
      clear hc hr hk5
      by_cases hkk : r.k = k
      · rw [decide_eq_true hkk] at heq
        rw [if_pos hkk] at HST
        clear hkk
        go_wp2_with fail
        go_quiet (fail)
        obtain ⟨wq, hwq⟩ : ∃ wq, wq = wr.drewN nq := ⟨_, rfl⟩
        have HWQ : Hid (Turn (fun _ => False) wr wq) := by rw [hwq]; exact (Turn.refl _ wr).drewN nq
        have HBQ : Hid (Box wq g16 47 (ca ((findR k (l.take i)).getD Cl.zero))) := HB.out.turn HWQ.out (fun f => f)
        rw [← hwq]
        obtain ⟨rn, hrn⟩ : ∃ rn, rn = r.c := ⟨_, rfl⟩
        have b5 : wq.cell? ⟨(ad.add (i * 9)).block, (ad.add (i * 9)).off + 5, none⟩ = some (.int .i64 r.c.n) := by rw [hwq]; exact a5
        have b6 : wq.cell? ⟨(ad.add (i * 9)).block, (ad.add (i * 9)).off + 6, none⟩ = some (.int .i64 r.c.s) := by rw [hwq]; exact a6
        have b7 : wq.cell? ⟨(ad.add (i * 9)).block, (ad.add (i * 9)).off + 7, none⟩ = some (.int .i64 r.c.lo) := by rw [hwq]; exact a7
        have b8 : wq.cell? ⟨(ad.add (i * 9)).block, (ad.add (i * 9)).off + 8, none⟩ = some (.int .i64 r.c.hi) := by rw [hwq]; exact a8
        obtain ⟨⟨dn, ds, dl, dh⟩, hd⟩ : ∃ d, d = (findR k (l.take i)).getD Cl.zero := ⟨_, rfl⟩
        rw [← hd] at HBQ
        obtain ⟨⟨c0, c1, c2, c3⟩, ⟨f0, f1, f2, f3⟩⟩ := box_cells HBQ.out
        clear hwq hrn hd a0 a1 a2 a3 a4 a5 a6 a7 a8 k0 k1 k2 k3 k4 heq hgd
        go_wp2
        go_roundw
        case rel => exact ⟨i + 1, by go_num, hlt, by rw [HST.out]; rfl, by rw [HST.out]; exact box_set4 HBQ.out, turn_set4 (HTG.out.trans HWQ.out (fun _ _ f => f.elim)) (fun _ => rfl)⟩
        case measure => simp [intOf]; omega
      · rw [decide_eq_false hkk] at heq
        rw [if_neg hkk] at HST
        clear hkk
        go_wp2_with fail
        go_quiet (fail)
        go_wp2
        go_roundw
        case rel => exact ⟨i + 1, by go_num, hlt, by rw [HST.out], by rw [HST.out]; exact HB.out.turn ((Turn.refl (fun _ => False) wr).drewN nq) (fun f => f), HTG.out.drewN nq⟩
        case measure => simp [intOf]; omega
    · obtain rfl : i = l.length := by omega
      have hbw := HB.out
      rw [List.take_length] at hbw ⊢
      rw [← HFC.out] at hbw
      rw [← HFB.out]
      have HB16 := Lib.hid hbw
      have HSR := Lib.hid (HS8.out.later HT8.out); have HUR := Lib.hid (HU8.out.later HT8.out); have HB13R := Lib.hid (HB13'.out.turn HT8.out (fun f => f)); have HB12R := Lib.hid (HB12'.out.turn HT8.out (fun f => f))
      clear hbw HB HTG
      have HTO := Lib.hid (total_any11 (.pointer p) l wr HSR.out)
      rw [outC_is11] at HTO
      have HRT2 := HRT
      obtain ⟨⟨tn, ts, tl, th⟩, htc⟩ : ∃ c, c = (totalR Cl.zero l).getD Cl.zero := ⟨_, rfl⟩
      obtain ⟨tb, htb⟩ : ∃ tb, tb = (totalR Cl.zero l).isSome := ⟨_, rfl⟩
      rw [outC_is11] at HRT2
      rw [← htc, ← htb] at HTO HRT2
      unfold cv at HTO HRT2
      dsimp only at HTO HRT2
      clear htc htb HRT
      go_wp2_with fail
      refine HTO.out.mono ?_
      rintro e w11 ⟨rfl, t11⟩
      obtain ⟨g19, hg19⟩ : ∃ g19, g19 = w11.heap.size := ⟨_, rfl⟩
      obtain ⟨w12, hw12⟩ : ∃ w12, w12 = w11.alloc (.cells #[.int .i64 tn, .int .i64 ts, .int .i64 tl, .int .i64 th] 47) := ⟨_, rfl⟩
      have HTr12 : Hid (Turn (fun _ => False) wr w12) := by rw [hw12]; exact t11.alloc _
      have HB19 : Hid (Box w12 g19 47 (ca ⟨tn, ts, tl, th⟩)) := by rw [hw12, hg19]; exact Box.new w11 _ _
      have HW12 := Lib.hid hw12; have HG19 := Lib.hid hg19
      clear t11 hw12 hg19 HTO
      go_wp2_with fail
      rw [← HW12.out, ← HG19.out]
      refine (HRT2.out _ (HKR.out.turn.trans HTr12.out (fun _ _ f => f))).mono ?_
      rintro e w13 ⟨rfl, t13⟩
      obtain ⟨g21, hg21⟩ : ∃ g21, g21 = w13.heap.size := ⟨_, rfl⟩
      obtain ⟨w14, hw14⟩ : ∃ w14, w14 = w13.alloc (.cells #[.int .i64 tn, .int .i64 ts, .int .i64 tl, .int .i64 th] 47) := ⟨_, rfl⟩
      have HT12 : Hid (Turn (fun _ => False) w12 w14) := by rw [hw14]; exact t13.alloc _
      have HTr14 := Lib.hid (HTr12.out.trans HT12.out (fun _ _ f => f))
      have HB21 : Hid (Box w14 g21 47 (ca ⟨tn, ts, tl, th⟩)) := by rw [hw14, hg21]; exact Box.new w13 _ _
      have HB19' := Lib.hid (HB19.out.turn HT12.out (fun f => f)); have HB16' := Lib.hid (HB16.out.turn HTr14.out (fun f => f)); have HB13q := Lib.hid (HB13R.out.turn HTr14.out (fun f => f)); have HB12q := Lib.hid (HB12R.out.turn HTr14.out (fun f => f))
      have HS14 := Lib.hid (HSR.out.later HTr14.out); have HU14 := Lib.hid (HUR.out.later HTr14.out); have HK14 := Lib.hid (HKR.out.later HTr14.out)
      have HW14 := Lib.hid hw14; have HG21 := Lib.hid hg21
      clear t13 hw14 hg21 HB19 HB16 HB13R HB12R HSR HUR HKR HTr12 HT12 HTr14 HRT2 HT8 HK8 HB13' HB12' HS8 HU8 HT89 HF8
      have HN1 := Lib.hid (run_neq_cell11 ⟨fn, fsu, flo, fhi⟩ ⟨fn, fsu, flo, fhi⟩)
      have HN2 := Lib.hid (run_neq_cell11 ⟨tn, ts, tl, th⟩ ⟨tn, ts, tl, th⟩)
      have hg1 := fun X Y => guard_cell11 .neq X Y ⟨fn, fsu, flo, fhi⟩ ⟨fn, fsu, flo, fhi⟩
      have hg2 := fun X Y => guard_cell11 .neq X Y ⟨tn, ts, tl, th⟩ ⟨tn, ts, tl, th⟩
      rw [decide_eq_true rfl] at HN1 HN2
      have hn1 := HN1.out; have hn2 := HN2.out
      unfold cv at hn1 hn2 hg1 hg2
      have hfb : (fb != fb) = false := by simp
      have htb : (tb != tb) = false := by simp
      have HPT : Hid (∀ W, Turn (fun _ => False) w14 W → Calls Try.prog 24 #[.pointer p, .int .i64 a, .int .i64 b] W fun e w' => Part11 W G e w') := fun W ht => by have h := part_any11 (.pointer p) l a b W (HS14.out.later ht); rwa [← HGG.out] at h
      go_wp2_with fail
      rw [← HW14.out, ← HG21.out]
      refine drawn_region_calm (fun W => Turn (fun _ => False) w14 W) [] (by kernel_rfl) ?_
      have hS0 : Turn (fun _ => False) w14 (World.drew w14) := (Turn.refl _ w14).drew
      generalize World.drew w14 = wd at *
      refine drawn_take 0 83 (.agg #[.int .i64 fn, .int .i64 fsu, .int .i64 flo, .int .i64 fhi]) rfl rfl (by kernel_rfl) (by kernel_rfl) (by kernel_rfl) (by kernel_rfl) (fun _ _ _ h => h) (by rfl) (by assumption) (by intro w hSw; obtain ⟨⟨a0, a1, a2, a3⟩, _⟩ := box_cells (HB13q.out.turn hSw (fun f => f)); clear hSw; go_simp) ?_
      try simp only [List.setIfInBounds_toArray, List.set_cons_zero, List.set_cons_succ]
      refine drawn_take 1 84 (.agg #[.int .i64 fn, .int .i64 fsu, .int .i64 flo, .int .i64 fhi]) rfl rfl (by kernel_rfl) (by kernel_rfl) (by kernel_rfl) (by kernel_rfl) (fun _ _ _ h => h) (by rfl) (by assumption) (by intro w hSw; obtain ⟨⟨a0, a1, a2, a3⟩, _⟩ := box_cells (HB16'.out.turn hSw (fun f => f)); clear hSw; go_simp) ?_
      try simp only [List.setIfInBounds_toArray, List.set_cons_zero, List.set_cons_succ]
      refine drawn_take 2 85 (.bool false) rfl rfl (by kernel_rfl) (by kernel_rfl) (by kernel_rfl) (by kernel_rfl) (fun _ _ _ h => h) (by rfl) (by assumption) (by intro w hSw; obtain hS1 := hSw; go_simp) ?_
      try simp only [List.setIfInBounds_toArray, List.set_cons_zero, List.set_cons_succ]
      refine drawn_take 3 86 (.bool false) rfl rfl (by kernel_rfl) (by kernel_rfl) (by kernel_rfl) (by kernel_rfl) (fun _ _ _ h => h) (by rfl) (by assumption) (by intro w hSw; obtain hS1 := hSw; go_simp) ?_
      try simp only [List.setIfInBounds_toArray, List.set_cons_zero, List.set_cons_succ]
      refine drawn_take 4 87 (.bool fb) rfl rfl (by kernel_rfl) (by kernel_rfl) (by kernel_rfl) (by kernel_rfl) (fun _ _ _ h => h) (by rfl) (by assumption) (by intro w hSw; obtain hS1 := hSw; go_simp) ?_
      try simp only [List.setIfInBounds_toArray, List.set_cons_zero, List.set_cons_succ]
      refine drawn_take 5 88 (.bool fb) rfl rfl (by kernel_rfl) (by kernel_rfl) (by kernel_rfl) (by kernel_rfl) (fun _ _ _ h => h) (by rfl) (by assumption) (by intro w hSw; obtain hS1 := hSw; go_simp) ?_
      try simp only [List.setIfInBounds_toArray, List.set_cons_zero, List.set_cons_succ]
      refine drawn_take 6 89 (.bool false) rfl rfl (by kernel_rfl) (by kernel_rfl) (by kernel_rfl) (by kernel_rfl) (fun _ _ _ h => h) (by rfl) (by assumption) (by intro w hSw; obtain hS1 := hSw; go_simp) ?_
      try simp only [List.setIfInBounds_toArray, List.set_cons_zero, List.set_cons_succ]
      refine drawn_take 7 90 (.bool false) rfl rfl (by kernel_rfl) (by kernel_rfl) (by kernel_rfl) (by kernel_rfl) (fun _ _ _ h => h) (by rfl) (by assumption) (by intro w hSw; obtain hS1 := hSw; go_simp) ?_
      try simp only [List.setIfInBounds_toArray, List.set_cons_zero, List.set_cons_succ]
      refine drawn_take 8 91 (.bool false) rfl rfl (by kernel_rfl) (by kernel_rfl) (by kernel_rfl) (by kernel_rfl) (fun _ _ _ h => h) (by rfl) (by assumption) (by intro w hSw; obtain hS1 := hSw; go_simp) ?_
      try simp only [List.setIfInBounds_toArray, List.set_cons_zero, List.set_cons_succ]
      refine drawn_take 9 92 (.slice B8 0 d8) rfl rfl (by kernel_rfl) (by kernel_rfl) (by kernel_rfl) (by kernel_rfl) (fun _ _ _ h => h) (by rfl) (by assumption) (by intro w hSw; obtain hS1 := hSw; go_simp) ?_
      try simp only [List.setIfInBounds_toArray, List.set_cons_zero, List.set_cons_succ]
      refine drawn_take 10 93 (.int .i64 0) rfl rfl (by kernel_rfl) (by kernel_rfl) (by kernel_rfl) (by kernel_rfl) (fun _ _ _ h => h) (by rfl) (by assumption) (by intro w hSw; obtain hS1 := hSw; go_simp) ?_
      try simp only [List.setIfInBounds_toArray, List.set_cons_zero, List.set_cons_succ]
      refine drawn_take 11 94 (.bool false) rfl rfl (by kernel_rfl) (by kernel_rfl) (by kernel_rfl) (by kernel_rfl) (fun _ _ _ h => h) (by rfl) (by assumption) (by intro w hSw; obtain hS1 := hSw; go_simp) ?_
      try simp only [List.setIfInBounds_toArray, List.set_cons_zero, List.set_cons_succ]
      refine drawn_take 12 95 (.bool false) rfl rfl (by kernel_rfl) (by kernel_rfl) (by kernel_rfl) (by kernel_rfl) (fun _ _ _ h => h) (by rfl) (by assumption) (by intro w hSw; obtain hS1 := hSw; go_simp) ?_
      try simp only [List.setIfInBounds_toArray, List.set_cons_zero, List.set_cons_succ]
      refine drawn_take 13 96 (.bool false) rfl rfl (by kernel_rfl) (by kernel_rfl) (by kernel_rfl) (by kernel_rfl) (fun _ _ _ h => h) (by rfl) (by assumption) (by intro w hSw; obtain hS1 := hSw; go_simp) ?_
      try simp only [List.setIfInBounds_toArray, List.set_cons_zero, List.set_cons_succ]
      refine drawn_take 14 97 (.agg #[.int .i64 tn, .int .i64 ts, .int .i64 tl, .int .i64 th]) rfl rfl (by kernel_rfl) (by kernel_rfl) (by kernel_rfl) (by kernel_rfl) (fun _ _ _ h => h) (by rfl) (by assumption) (by intro w hSw; obtain ⟨⟨a0, a1, a2, a3⟩, _⟩ := box_cells (HB19'.out.turn hSw (fun f => f)); clear hSw; go_simp) ?_
      try simp only [List.setIfInBounds_toArray, List.set_cons_zero, List.set_cons_succ]
      refine drawn_take 15 98 (.agg #[.int .i64 tn, .int .i64 ts, .int .i64 tl, .int .i64 th]) rfl rfl (by kernel_rfl) (by kernel_rfl) (by kernel_rfl) (by kernel_rfl) (fun _ _ _ h => h) (by rfl) (by assumption) (by intro w hSw; obtain ⟨⟨a0, a1, a2, a3⟩, _⟩ := box_cells (HB21.out.turn hSw (fun f => f)); clear hSw; go_simp) ?_
      try simp only [List.setIfInBounds_toArray, List.set_cons_zero, List.set_cons_succ]
      refine drawn_take 16 99 (.bool false) rfl rfl (by kernel_rfl) (by kernel_rfl) (by kernel_rfl) (by kernel_rfl) (fun _ _ _ h => h) (by rfl) (by assumption) (by intro w hSw; obtain hS1 := hSw; go_simp) ?_
      try simp only [List.setIfInBounds_toArray, List.set_cons_zero, List.set_cons_succ]
      refine drawn_take 17 100 (.bool false) rfl rfl (by kernel_rfl) (by kernel_rfl) (by kernel_rfl) (by kernel_rfl) (fun _ _ _ h => h) (by rfl) (by assumption) (by intro w hSw; obtain hS1 := hSw; go_simp) ?_
      try simp only [List.setIfInBounds_toArray, List.set_cons_zero, List.set_cons_succ]
      refine drawn_take 18 101 (.bool false) rfl rfl (by kernel_rfl) (by kernel_rfl) (by kernel_rfl) (by kernel_rfl) (fun _ _ _ h => h) (by rfl) (by assumption) (by intro w hSw; obtain hS1 := hSw; go_simp) ?_
      try simp only [List.setIfInBounds_toArray, List.set_cons_zero, List.set_cons_succ]
      refine drawn_take 19 102 (.bool tb) rfl rfl (by kernel_rfl) (by kernel_rfl) (by kernel_rfl) (by kernel_rfl) (fun _ _ _ h => h) (by rfl) (by assumption) (by intro w hSw; obtain hS1 := hSw; go_simp) ?_
      try simp only [List.setIfInBounds_toArray, List.set_cons_zero, List.set_cons_succ]
      refine drawn_take 20 103 (.bool tb) rfl rfl (by kernel_rfl) (by kernel_rfl) (by kernel_rfl) (by kernel_rfl) (fun _ _ _ h => h) (by rfl) (by assumption) (by intro w hSw; obtain hS1 := hSw; go_simp) ?_
      try simp only [List.setIfInBounds_toArray, List.set_cons_zero, List.set_cons_succ]
      refine drawn_take 21 104 (.bool false) rfl rfl (by kernel_rfl) (by kernel_rfl) (by kernel_rfl) (by kernel_rfl) (fun _ _ _ h => h) (by rfl) (by assumption) (by intro w hSw; obtain hS1 := hSw; go_simp) ?_
      try simp only [List.setIfInBounds_toArray, List.set_cons_zero, List.set_cons_succ]
      refine drawn_take 22 105 (.bool false) rfl rfl (by kernel_rfl) (by kernel_rfl) (by kernel_rfl) (by kernel_rfl) (fun _ _ _ h => h) (by rfl) (by assumption) (by intro w hSw; obtain hS1 := hSw; go_simp) ?_
      try simp only [List.setIfInBounds_toArray, List.set_cons_zero, List.set_cons_succ]
      refine drawn_take 23 106 (.bool false) rfl rfl (by kernel_rfl) (by kernel_rfl) (by kernel_rfl) (by kernel_rfl) (fun _ _ _ h => h) (by rfl) (by assumption) (by intro w hSw; obtain hS1 := hSw; go_simp) ?_
      try simp only [List.setIfInBounds_toArray, List.set_cons_zero, List.set_cons_succ]
      refine drawn_take 24 107 (.pointer p) rfl rfl (by kernel_rfl) (by kernel_rfl) (by kernel_rfl) (by kernel_rfl) (fun _ _ _ h => h) (by rfl) (by assumption) (by intro w hSw; obtain hS1 := hSw; go_simp) ?_
      try simp only [List.setIfInBounds_toArray, List.set_cons_zero, List.set_cons_succ]
      refine drawn_take 25 108 (.int .i64 a) rfl rfl (by kernel_rfl) (by kernel_rfl) (by kernel_rfl) (by kernel_rfl) (fun _ _ _ h => h) (by rfl) (by assumption) (by intro w hSw; obtain hS1 := hSw; go_simp) ?_
      try simp only [List.setIfInBounds_toArray, List.set_cons_zero, List.set_cons_succ]
      refine drawn_take 26 109 (.int .i64 b) rfl rfl (by kernel_rfl) (by kernel_rfl) (by kernel_rfl) (by kernel_rfl) (fun _ _ _ h => h) (by rfl) (by assumption) (by intro w hSw; obtain hS1 := hSw; go_simp) ?_
      try simp only [List.setIfInBounds_toArray, List.set_cons_zero, List.set_cons_succ]
      refine drawn_take 29 112 (.slice B4 G.length d4) rfl rfl (by kernel_rfl) (by kernel_rfl) (by kernel_rfl) (by kernel_rfl) (fun _ _ _ h => h) (by rfl) (by assumption) (by intro w hSw; have a0 : w.cell? ⟨g12, 0, none⟩ = some (.slice B4 G.length d4) := (HB12q.out.turn hSw (fun f => f)).cell 0; clear hSw; go_simp) ?_
      try simp only [List.setIfInBounds_toArray, List.set_cons_zero, List.set_cons_succ]
      refine drawn_any [27] (by kernel_rfl) (by simp) ?_
      refine drawn_cons rfl (fun K hK => ?_) drawn_nil
      go_simp
      refine (HPT.out wd hS0).mono ?_
      rintro e wp ⟨sp, rfl, hsp, tp⟩
      obtain ⟨pp, rfl⟩ := hsp.ptr
      have HSP := Lib.hid hsp
      have hS2 := hS0.trans tp (fun _ _ f => f)
      refine hK.out _ _ _ hS2 ?_
      clear hK K hS0 hsp tp
      try simp only [List.setIfInBounds_toArray, List.set_cons_zero, List.set_cons_succ]
      refine drawn_any [28] (by kernel_rfl) (by simp) ?_
      refine drawn_cons rfl (fun K hK => ?_) drawn_nil
      go_simp
      refine (back_any11 (.pointer pp) G wp HSP.out).mono ?_
      rintro e wc ⟨ub, rfl, hub, tb'⟩
      have HUB := Lib.hid hub
      have hS3 := hS2.trans tb' (fun _ _ f => f)
      refine hK.out _ _ _ hS3 ?_
      clear hK K hS2 hub tb'
      try simp only [List.setIfInBounds_toArray, List.set_cons_zero, List.set_cons_succ]
      refine drawn_any [30] (by kernel_rfl) (by simp) ?_
      refine drawn_cons rfl (fun K hK => ?_) drawn_nil
      go_simp
      refine (same_refl11 ub _ G wc HUB.out (HU14.out.later hS3) (by omega)).mono ?_
      rintro e wd2 ⟨rfl, ts'⟩
      have hS4 := hS3.trans ts' (fun _ _ f => f)
      refine hK.out _ _ _ hS4 ?_
      clear hK K hS3 ts' HSP HUB
      try simp only [List.setIfInBounds_toArray, List.set_cons_zero, List.set_cons_succ]
      refine drawn_take 31 114 (.bool false) rfl rfl (by kernel_rfl) (by kernel_rfl) (by kernel_rfl) (by kernel_rfl) (fun _ _ _ h => h) (by rfl) (by assumption) (by intro w hSw; obtain hS1 := hSw; go_simp) ?_
      try simp only [List.setIfInBounds_toArray, List.set_cons_zero, List.set_cons_succ]
      refine drawn_last1 32 115 (.bool false) rfl rfl (by kernel_rfl) (by kernel_rfl) (by rfl) (by intro w; go_simp) hS4 ?_
      try simp only [List.setIfInBounds_toArray, List.set_cons_zero, List.set_cons_succ]
      refine calm_normal ?_
      have HK15 := Lib.hid (HK14.out.later hS4); have HB12r := Lib.hid (HB12q.out.turn hS4 (fun f => f)); have HS15 := Lib.hid (HS14.out.later hS4); have HU15 := Lib.hid (HU14.out.later hS4)
      clear hS4 HK14 HB12q HS14 HU14 HB13q HB16' HB19' HB21 HPT HN1 HN2 hn1 hn2 hg1 hg2 hfb htb HW14 HG21 HW12 HG19
      obtain ⟨nb, hnb⟩ : ∃ nb, nb = wd2.heap.size := ⟨_, rfl⟩
      obtain ⟨w16, hw16⟩ : ∃ w16, w16 = wd2.alloc (.cells #[.int .i64 0] 3) := ⟨_, rfl⟩
      have t16 : Turn (fun _ => False) wd2 w16 := by rw [hw16]; exact (Turn.refl _ wd2).alloc _
      have HBN : Hid (Box w16 nb 3 #[.int .i64 0]) := by rw [hw16, hnb]; exact Box.new wd2 _ _
      have HNS : Hid (w.heap.size + 3 ≤ nb) := by show _ ≤ nb; rw [hnb]; exact HK15.out.size
      have HNG : Hid (g12 < nb) := by show g12 < nb; rw [hnb]; exact HB12r.out.lt
      have HK16 := Lib.hid (HK15.out.later t16); have HB16n := Lib.hid (HB12r.out.turn t16 (fun f => f)); have HU16 := Lib.hid (HU15.out.later t16)
      have hrn := range_any11 (.pointer p) l a b w16 (HS15.out.later t16)
      rw [← HGG.out] at hrn
      have HRN := Lib.hid hrn
      have HW16 := Lib.hid hw16; have HNB := Lib.hid hnb
      clear hw16 hnb t16 hrn HK15 HB12r HU15 HS15
      go_wp2_with fail
      rw [← HW16.out, ← HNB.out]
      refine HRN.out.mono ?_
      rintro e w17 ⟨gf, lb, rfl, heg, t17, hfe⟩
      have HFE := Lib.hid (hfe 4 (fun g => g = nb ∨ w17.heap.size ≤ g) (fun g e => by
        rcases e with rfl | e
        · exact .inl ⟨_, _, HBN.out⟩
        · exact .inr e))
      have HN17 := Lib.hid (HBN.out.turn t17 (fun f => f))
      have HSZ : Hid (nb < w17.heap.size) := HN17.out.lt
      have HU17 := Lib.hid (HU16.out.later t17)
      have HOW : Hid (0 < G.length → ∀ g, (Value.slice B4 G.length d4).ownBlock = some g → ¬ g = nb) := fun hpos g hg e => by
        obtain ⟨y, hy⟩ : ∃ y, G[0]? = some y := ⟨_, List.getElem?_eq_getElem hpos⟩
        obtain ⟨ad, hA, hc⟩ := row_at11 HU17.out hy
        subst hA
        obtain ⟨a0, a1, -⟩ := hc w17 (Turn.refl _ _)
        have hgb : ad.block = g := by simpa [Value.ownBlock] using hg
        rw [eadd_block, hgb, e, HN17.out.cell] at a1
        have h2 : ((#[.int .i64 0] : Array Value)[(ad.add (0 * 9)).off + 1]?) = none := by simp
        rw [h2] at a1
        cases a1
      have HFX : Hid (∀ V, Turn (fun g => g = nb) w17 V → LK11 w V k stop ∧ Box V g12 23 #[.slice B4 G.length d4] ∧ RdE ER V (.slice B4 G.length d4) G) := fun V ht => by
        have h1 := HNS.out; have h2 := HNG.out
        refine ⟨(HK16.out.later t17).turned ht (fun g e => by omega), (HB16n.out.turn t17 (fun f => f)).turn ht (by omega), ?_⟩
        by_cases hpos : 0 < G.length
        · exact HU17.out.turn ht (HOW.out hpos)
        · have e0 : G = [] := List.eq_nil_of_length_eq_zero (by omega)
          have h := HU17.out
          rw [e0] at h ⊢
          exact rd_empty h
      have HI0 : Hid (LkI w17 nb stop [] w17) := ⟨Turn.refl _ _, HN17.out, fun m h1 h2 => absurd h1 (by simp at h2; omega)⟩
      clear hfe t17
      go_wp2_with fail
      refine (wpIn_wide (n := 5)).1 ?_
      refine' over4 (n := 5) (by omega) (gf := gf) (lb := lb) rfl heg HFE.out (Turn.refl _ _) (Or.inr (Nat.le_succ _)) (fun _ => rfl)
        (fun (pre : List R11) V => LkI w17 nb stop pre V) (fun c (pre : List R11) V => c = .exit 2 ∧ LkX w17 nb stop pre V) ?hI ?hIx HI0.out
        (fun pre y a' V => ∃ q, a' = { tmps := #[Value.slice A l.length c, Value.int IntKind.i64 a, Value.int IntKind.i64 b, kv9 k, Value.int IntKind.i64 stop, undef, undef, undef, Value.pointer (some { block := w.heap.size, off := 0 }), Value.pointer (some { block := w.heap.size + 1, off := 0 }), Value.pointer (some { block := w.heap.size + 1 + 1, off := 0 }), Value.pointer p, Value.pointer (some { block := g12, off := 0 }), Value.pointer (some { block := g13, off := 0 }), Value.bool fb, Value.slice B8 0 d8, Value.pointer (some { block := g16, off := 0 }), Value.bool fb, Value.int IntKind.i64 (l.length : Int), Value.pointer (some { block := g19, off := 0 }), Value.bool tb, Value.pointer (some { block := g21, off := 0 }), Value.bool tb, Value.pointer (some { block := nb, off := 0 }), Value.pointer (some { block := q, off := 0 }), undef, Value.bool true, Value.bool false, Value.slice A l.length c, Value.bool true, Value.bool false, Value.bool false, Value.slice A l.length c, Value.bool true, Value.bool false, Value.bool false, Value.slice A l.length c, Value.pointer p, Value.slice A l.length c, Value.int IntKind.i64 a, Value.int IntKind.i64 b, Value.slice B4 G.length d4, Value.tuple #[Value.agg #[Value.int IntKind.i64 fn, Value.int IntKind.i64 fsu, Value.int IntKind.i64 flo, Value.int IntKind.i64 fhi], Value.bool fb], Value.pointer p, Value.agg #[Value.int IntKind.i64 k.h, sv9 k.a, sv9 k.b, sv9 k.c, sv9 k.d], Value.tuple #[Value.agg #[Value.int IntKind.i64 fn, Value.int IntKind.i64 fsu, Value.int IntKind.i64 flo, Value.int IntKind.i64 fhi], Value.bool fb], Value.agg #[Value.int IntKind.i64 fn, Value.int IntKind.i64 fsu, Value.int IntKind.i64 flo, Value.int IntKind.i64 fhi], Value.bool fb, Value.slice A l.length c, Value.pointer (some { block := w.heap.size, off := 0 }), Value.int IntKind.i64 k.h, Value.pointer (some { block := w.heap.size, off := 0 }), Value.int IntKind.i64 k.h, Value.slice B8 0 d8, Value.agg #[Value.int IntKind.i64 0, Value.int IntKind.i64 0, Value.int IntKind.i64 0, Value.int IntKind.i64 0], Value.int IntKind.i64 (l.length : Int), Value.slice A l.length c, Value.int IntKind.i64 (l.length : Int), Value.bool false, u59, u60, u61, u62, u63, u64, u65, u66, u67, u68, u69, u70, u71, u72, Value.tuple #[Value.agg #[Value.int IntKind.i64 tn, Value.int IntKind.i64 ts, Value.int IntKind.i64 tl, Value.int IntKind.i64 th], Value.bool tb], Value.pointer p, Value.tuple #[Value.agg #[Value.int IntKind.i64 tn, Value.int IntKind.i64 ts, Value.int IntKind.i64 tl, Value.int IntKind.i64 th], Value.bool tb], Value.agg #[Value.int IntKind.i64 tn, Value.int IntKind.i64 ts, Value.int IntKind.i64 tl, Value.int IntKind.i64 th], Value.bool tb, Value.tuple #[Value.agg #[Value.int IntKind.i64 tn, Value.int IntKind.i64 ts, Value.int IntKind.i64 tl, Value.int IntKind.i64 th], Value.bool tb], Value.slice A l.length c, Value.tuple #[Value.agg #[Value.int IntKind.i64 tn, Value.int IntKind.i64 ts, Value.int IntKind.i64 tl, Value.int IntKind.i64 th], Value.bool tb], Value.agg #[Value.int IntKind.i64 tn, Value.int IntKind.i64 ts, Value.int IntKind.i64 tl, Value.int IntKind.i64 th], Value.bool tb, Value.agg #[Value.int IntKind.i64 fn, Value.int IntKind.i64 fsu, Value.int IntKind.i64 flo, Value.int IntKind.i64 fhi], Value.agg #[Value.int IntKind.i64 fn, Value.int IntKind.i64 fsu, Value.int IntKind.i64 flo, Value.int IntKind.i64 fhi], Value.bool false, Value.bool false, Value.bool fb, Value.bool fb, Value.bool false, Value.bool false, Value.bool false, Value.slice B8 0 d8, Value.int IntKind.i64 0, Value.bool false, Value.bool false, Value.bool false, Value.agg #[Value.int IntKind.i64 tn, Value.int IntKind.i64 ts, Value.int IntKind.i64 tl, Value.int IntKind.i64 th], Value.agg #[Value.int IntKind.i64 tn, Value.int IntKind.i64 ts, Value.int IntKind.i64 tl, Value.int IntKind.i64 th], Value.bool false, Value.bool false, Value.bool false, Value.bool tb, Value.bool tb, Value.bool false, Value.bool false, Value.bool false, Value.pointer p, Value.int IntKind.i64 a, Value.int IntKind.i64 b, Value.pointer pp, ub, Value.slice B4 G.length d4, Value.bool true, Value.bool false, Value.bool false, Value.pointer p, Value.int IntKind.i64 a, Value.int IntKind.i64 b, Value.func (Fn.func gf) #[] lb, rv11 y, undef, undef, undef, undef, undef, undef, undef, undef, undef, undef, undef, undef, undef, undef, undef, undef, undef, undef, undef, undef, undef, undef, undef, undef, undef, undef, undef, undef, undef, undef], defers := [] } ∧ LkI w17 nb stop pre V ∧ Box V q 51 (cells11 y) ∧ pre ++ [y] <+: G) ?hax ?assign ?body ?done ?stop
      case hI =>
        intro pre A B h ht
        exact h.odd (Nat.le_refl _) ht
      case hIx =>
        rintro c pre A B ⟨h1, h2⟩ ht
        exact ⟨h1, h2.odd (Nat.le_refl _) ht⟩
      case hax =>
        rintro pre y a' A B ⟨q, h1, h2, h3, h4⟩ ht
        exact ⟨q, h1, h2.odd (Nat.le_refl _) ht, h3.odd ht, h4⟩
      case assign =>
        intro l0 pre x W K hi hgv hK
        have HK := Lib.hid hK
        have HB : Hid (LkI w17 nb stop pre (W.alloc (.cells (cells11 x) 51)) ∧ Box (W.alloc (.cells (cells11 x) 51)) W.heap.size 51 (cells11 x) ∧ pre ++ [x] <+: G) := ⟨hi.later ((Turn.refl _ W).alloc _), Box.new W _ _, hgv⟩
        clear hK hi hgv
        gi_wp2
        exact HK.out _ _ ⟨W.heap.size, rfl, HB.out⟩ ((Turn.refl _ W).alloc _)
      case body =>
        rintro l0 pre y a' V ⟨q, rfl, hi, hq, hgv⟩
        obtain ⟨hl, hbw, hrd⟩ := HFX.out V hi.turn
        obtain ⟨hat, hlt⟩ := pre_at10 hgv
        obtain ⟨ad, rfl, hcy⟩ := row_at11 hrd hat
        have HCY : Hid (∀ W, Turn (fun _ => False) V W → RowAt W (ad.add (pre.length * 9)) y) := hcy
        unfold RowAt at HCY
        have HHL := Lib.hid hl; have HBW := Lib.hid hbw; have HQ := Lib.hid hq; have HN := Lib.hid hi.num; have HIV := Lib.hid hi
        have hil : (pre.length : Int) < (G.length : Int) := by omega
        have hpl : (pre.length : Int) < 1000 := by omega
        have hge : ¬ ((G.length : Int) ≤ (pre.length : Int)) := by omega
        have hne := fun W => run_neq_row11 y y W true (decide_eq_true rfl)
        simp only [Bool.not_true] at hne
        have hgd := fun X Y => guard_row11 .neq X Y y y
        clear hl hbw hrd hat hcy hi hq hgv
        gi_wp2_with fail
        refine drawn_region_in (fun W => Turn (fun _ => False) V W) [] (by kernel_rfl) (by kernel_rfl) ?_
        have hS0 : Turn (fun _ => False) V (World.drew V) := (Turn.refl _ V).drew
        generalize World.drew V = wd at *
        refine drawn_take 0 121 (.int .i64 (pre.length : Int)) rfl rfl (by kernel_rfl) (by kernel_rfl) (by kernel_rfl) (by kernel_rfl) (fun _ _ _ h => h) (by rfl) (by assumption) (by intro w hSw; have a0 := (HN.out.turn hSw (fun f => f)).cell 0; clear hSw; go_simp) ?_
        try simp only [List.setIfInBounds_toArray, List.set_cons_zero, List.set_cons_succ]
        refine drawn_take 1 122 (.slice (some ad) G.length d4) rfl rfl (by kernel_rfl) (by kernel_rfl) (by kernel_rfl) (by kernel_rfl) (fun _ _ _ h => h) (by rfl) (by assumption) (by intro w hSw; have a0 := (HBW.out.turn hSw (fun f => f)).cell 0; clear hSw; go_simp) ?_
        try simp only [List.setIfInBounds_toArray, List.set_cons_zero, List.set_cons_succ]
        refine drawn_take 2 123 (.int .i64 (G.length : Int)) rfl rfl (by kernel_rfl) (by kernel_rfl) (by kernel_rfl) (by kernel_rfl) (fun _ _ _ h => h) (by rfl) (by assumption) (by intro w hSw; obtain hS1 := hSw; go_simp) ?_
        try simp only [List.setIfInBounds_toArray, List.set_cons_zero, List.set_cons_succ]
        refine drawn_take 3 124 (.bool false) rfl rfl (by kernel_rfl) (by kernel_rfl) (by kernel_rfl) (by kernel_rfl) (fun _ _ _ h => h) (by rfl) (by assumption) (by intro w hSw; obtain hS1 := hSw; go_simp) ?_
        try simp only [List.setIfInBounds_toArray, List.set_cons_zero, List.set_cons_succ]
        refine drawn_take 4 125 (.bool false) rfl rfl (by kernel_rfl) (by kernel_rfl) (by kernel_rfl) (by kernel_rfl) (fun _ _ _ h => h) (by rfl) (by assumption) (by intro w hSw; obtain hS1 := hSw; go_simp) ?_
        try simp only [List.setIfInBounds_toArray, List.set_cons_zero, List.set_cons_succ]
        refine drawn_take 5 126 (.agg #[.int .i64 y.k.h, sv9 y.k.a, sv9 y.k.b, sv9 y.k.c, sv9 y.k.d, .int .i64 y.c.n, .int .i64 y.c.s, .int .i64 y.c.lo, .int .i64 y.c.hi]) rfl rfl (by kernel_rfl) (by kernel_rfl) (by kernel_rfl) (by kernel_rfl) (fun _ _ _ h => h) (by rfl) (by assumption) (by intro w hSw; have hb := HQ.out.turn hSw (fun f => f); have a0 := hb.cell 0; have a1 := hb.cell 1; have a2 := hb.cell 2; have a3 := hb.cell 3; have a4 := hb.cell 4; have a5 := hb.cell 5; have a6 := hb.cell 6; have a7 := hb.cell 7; have a8 := hb.cell 8; clear hSw hb; go_simp) ?_
        try simp only [List.setIfInBounds_toArray, List.set_cons_zero, List.set_cons_succ]
        refine drawn_take 6 127 (.slice (some ad) G.length d4) rfl rfl (by kernel_rfl) (by kernel_rfl) (by kernel_rfl) (by kernel_rfl) (fun _ _ _ h => h) (by rfl) (by assumption) (by intro w hSw; have a0 := (HBW.out.turn hSw (fun f => f)).cell 0; clear hSw; go_simp) ?_
        try simp only [List.setIfInBounds_toArray, List.set_cons_zero, List.set_cons_succ]
        refine drawn_take 7 128 (.int .i64 (pre.length : Int)) rfl rfl (by kernel_rfl) (by kernel_rfl) (by kernel_rfl) (by kernel_rfl) (fun _ _ _ h => h) (by rfl) (by assumption) (by intro w hSw; have a0 := (HN.out.turn hSw (fun f => f)).cell 0; clear hSw; go_simp) ?_
        try simp only [List.setIfInBounds_toArray, List.set_cons_zero, List.set_cons_succ]
        refine drawn_take 8 129 (.pointer (some (ad.add (pre.length * 9)))) rfl rfl (by kernel_rfl) (by kernel_rfl) (by kernel_rfl) (by kernel_rfl) (fun _ _ _ h => h) (by rfl) (by assumption) (by intro w hSw; obtain hS1 := hSw; go_simp) ?_
        try simp only [List.setIfInBounds_toArray, List.set_cons_zero, List.set_cons_succ]
        refine drawn_take 9 130 (.agg #[.int .i64 y.k.h, sv9 y.k.a, sv9 y.k.b, sv9 y.k.c, sv9 y.k.d, .int .i64 y.c.n, .int .i64 y.c.s, .int .i64 y.c.lo, .int .i64 y.c.hi]) rfl rfl (by kernel_rfl) (by kernel_rfl) (by kernel_rfl) (by kernel_rfl) (fun _ _ _ h => h) (by rfl) (by assumption) (by intro w hSw; obtain ⟨a0, a1, a2, a3, a4, a5, a6, a7, a8⟩ := HCY.out w hSw; clear hSw; go_simp) ?_
        try simp only [List.setIfInBounds_toArray, List.set_cons_zero, List.set_cons_succ]
        refine drawn_take 10 131 (.bool false) rfl rfl (by kernel_rfl) (by kernel_rfl) (by kernel_rfl) (by kernel_rfl) (fun _ _ _ h => h) (by rfl) (by assumption) (by intro w hSw; obtain hS1 := hSw; go_simp) ?_
        try simp only [List.setIfInBounds_toArray, List.set_cons_zero, List.set_cons_succ]
        refine drawn_last1 11 132 (.bool false) rfl rfl (by kernel_rfl) (by kernel_rfl) (by rfl) (by intro w; go_simp) hS0 ?_
        try simp only [List.setIfInBounds_toArray, List.set_cons_zero, List.set_cons_succ]
        refine goes_on ?_
        have HTD := Lib.hid hS0
        have hbn := HN.out.turn hS0 (fun f => f)
        have hbs := HHL.out.stp.turn hS0 (fun f => f)
        have cn := hbn.cell 0
        have fn := hbn.free 0
        have cs := hbs.cell 0
        have hne2 : w.heap.size + 1 ≠ nb := by have := HNS.out; omega
        have cs2 := (hbs.far (p := ⟨nb, 0, none⟩) hne2 (.int .i64 ((pre.length : Int) + 1))).cell 0
        have cn2 := (hbn.set 0 (.int .i64 ((pre.length : Int) + 1))).cell 0
        have HBS := Lib.hid (hbn.set 0 (.int .i64 ((pre.length : Int) + 1)))
        have e9 : (((pre ++ [y] : List R11).length : Nat) : Int) = (pre.length : Int) + 1 := by rw [List.length_append]; simp
        have HE9 := Lib.hid e9
        clear hS0 hbn hbs hne2 hne hgd e9
        by_cases hst : ((pre.length : Int) + 1) = stop
        · have heq : (((pre.length : Int) + 1) == stop) = true := by rw [beq_iff_eq]; exact hst
          have HST := Lib.hid hst; clear hst
          gi_wp2
          refine ⟨(Still.turned HTD.out).trans (Still.setCell _ _ _), rfl, ⟨(HIV.out.turn.trans HTD.out (fun _ _ f => f.elim)).setCell (p := ⟨nb, 0, none⟩) (fun _ => rfl) _, ?_, by simp, by rw [HE9.out]; exact HST.out⟩⟩
          rw [HE9.out]
          exact HBS.out
        · have heq : (((pre.length : Int) + 1) == stop) = false := by rw [beq_eq_false_iff_ne]; exact hst
          have HST := Lib.hid hst; clear hst
          gi_wp2
          refine ⟨(Still.turned HTD.out).trans (Still.setCell _ _ _), (HTD.out.none).setCell (p := ⟨nb, 0, none⟩) (fun _ => .inl rfl) _, ⟨(HIV.out.turn.trans HTD.out (fun _ _ f => f.elim)).setCell (p := ⟨nb, 0, none⟩) (fun _ => rfl) _, ?_, fun m h1 h2 => ?_⟩⟩
          · rw [HE9.out]
            exact HBS.out
          · rw [List.length_append] at h2
            rcases Nat.lt_or_ge pre.length m with c | c
            · have : m = pre.length + 1 := by simp at h2; omega
              intro e
              exact HST.out (by rw [← e, this]; simp)
            · exact HIV.out.not m h1 c
      case stop =>
        rintro D c0 pre V hD hP ⟨rfl, hx⟩ hK
        have hle := hP.length_le
        obtain ⟨hl, hbw, -⟩ := HFX.out V hx.turn
        have cs := hl.stp.cell 0
        have cw := hbw.cell 0
        have cn := hx.num.cell 0
        have c2 := hl.res.cell 0
        have f2 := hl.res.free 0
        have HB2 := Lib.hid hl.res; have TW := Lib.hid hl.turn; have HKD := Lib.hid hK
        have HDD : Hid (w.heap.size ≤ D) := Nat.le_trans (by have h1 := HNS.out; have h2 := HSZ.out; omega) hD
        have h1 := hx.some
        have hs := hx.last
        generalize pre.length = N at *
        clear hl hbw hx hK hD hP
        subst hs
        have hpos : (0 : Int) < (N : Int) := by omega
        by_cases hlt : N < G.length
        · have hlt' : (N : Int) < (G.length : Int) := by omega
          refine wpIn_wide.2 ?_
          go_wp2
          have k1 := (KeepsOthers.setCell V ⟨w.heap.size + 2, 0, none⟩ (.bool true)).same D _ HKD.out rfl
          have b9 := HB2.out.set 0 (.bool true)
          have t9 : Turn (fun _ => False) w (V.setCell ⟨w.heap.size + 2, 0, none⟩ (.bool true)) := TW.out.setCell (p := ⟨w.heap.size + 2, 0, none⟩) (fun h => absurd h (by simp)) _
          generalize V.setCell ⟨w.heap.size + 2, 0, none⟩ (.bool true) = w9 at *
          have u1 : Turn (fun g => g = D) w9 (w9.putObj D (.deferred none)) := Turn.putObj _ D _ rfl
          have b10 := b9.turn u1 (fun e => by rw [← e, show w9.heap[w.heap.size + 2]? = _ from b9] at k1; cases k1)
          have h11 := b10.cell 0
          refine ⟨by simp, .inl ⟨_, _, rfl, run_takeDeferred k1, ?_⟩⟩
          refine ⟨.bool true, ?_, rfl, ?_⟩
          · simp [results, Try.f5, go_sem, h11]
          · exact (t9.fresh u1 (fun g e => by rw [e]; exact HDD.out)).below (Nat.le_refl _) (fun _ f => f.elim)
        · have hlt' : ¬ (N : Int) < (G.length : Int) := by omega
          obtain ⟨gl, hgl2⟩ : ∃ gl, gl = G.length := ⟨_, rfl⟩
          have he : N = gl := by omega
          rw [← hgl2] at cw hlt' hle
          subst he
          refine wpIn_wide.2 ?_
          go_wp2
          have k1 := (KeepsOthers.setCell V ⟨w.heap.size + 2, 0, none⟩ (.bool true)).same D _ HKD.out rfl
          have b9 := HB2.out.set 0 (.bool true)
          have t9 : Turn (fun _ => False) w (V.setCell ⟨w.heap.size + 2, 0, none⟩ (.bool true)) := TW.out.setCell (p := ⟨w.heap.size + 2, 0, none⟩) (fun h => absurd h (by simp)) _
          generalize V.setCell ⟨w.heap.size + 2, 0, none⟩ (.bool true) = w9 at *
          have u1 : Turn (fun g => g = D) w9 (w9.putObj D (.deferred none)) := Turn.putObj _ D _ rfl
          have b10 := b9.turn u1 (fun e => by rw [← e, show w9.heap[w.heap.size + 2]? = _ from b9] at k1; cases k1)
          have h11 := b10.cell 0
          refine ⟨by simp, .inl ⟨_, _, rfl, run_takeDeferred k1, ?_⟩⟩
          refine ⟨.bool true, ?_, rfl, ?_⟩
          · simp [results, Try.f5, go_sem, h11]
          · exact (t9.fresh u1 (fun g e => by rw [e]; exact HDD.out)).below (Nat.le_refl _) (fun _ f => f.elim)
      case done =>
        rintro D xs V hD hA hi hK
        subst hA
        obtain ⟨hl, hbw, -⟩ := HFX.out V hi.turn
        have cs := hl.stp.cell 0
        have cw := hbw.cell 0
        have cn := hi.num.cell 0
        have c2 := hl.res.cell 0
        have f2 := hl.res.free 0
        have HB2 := Lib.hid hl.res; have TW := Lib.hid hl.turn; have HKD := Lib.hid hK
        have HDD : Hid (w.heap.size ≤ D) := Nat.le_trans (by have h1 := HNS.out; have h2 := HSZ.out; omega) hD
        have HNO := Lib.hid hi.not
        clear hl hbw hi hK hD
        by_cases hpos : (0 : Int) < stop
        · have hlt' : ¬ stop < (xs.length : Int) := fun h => by
            obtain ⟨m, rfl⟩ := Int.eq_ofNat_of_zero_le (by omega : 0 ≤ stop)
            exact HNO.out m (by omega) (by omega) rfl
          go_wp2
          have k1 := (KeepsOthers.setCell V ⟨w.heap.size + 2, 0, none⟩ (.bool true)).same D _ HKD.out rfl
          have b9 := HB2.out.set 0 (.bool true)
          have t9 : Turn (fun _ => False) w (V.setCell ⟨w.heap.size + 2, 0, none⟩ (.bool true)) := TW.out.setCell (p := ⟨w.heap.size + 2, 0, none⟩) (fun h => absurd h (by simp)) _
          generalize V.setCell ⟨w.heap.size + 2, 0, none⟩ (.bool true) = w9 at *
          have u1 : Turn (fun g => g = D) w9 (w9.putObj D (.deferred none)) := Turn.putObj _ D _ rfl
          have b10 := b9.turn u1 (fun e => by rw [← e, show w9.heap[w.heap.size + 2]? = _ from b9] at k1; cases k1)
          have h11 := b10.cell 0
          refine ⟨by simp, .inl ⟨_, _, rfl, run_takeDeferred k1, ?_⟩⟩
          refine ⟨.bool true, ?_, rfl, ?_⟩
          · simp [results, Try.f5, go_sem, h11]
          · exact (t9.fresh u1 (fun g e => by rw [e]; exact HDD.out)).below (Nat.le_refl _) (fun _ f => f.elim)
        · go_wp2
          have k1 := (KeepsOthers.setCell V ⟨w.heap.size + 2, 0, none⟩ (.bool true)).same D _ HKD.out rfl
          have b9 := HB2.out.set 0 (.bool true)
          have t9 : Turn (fun _ => False) w (V.setCell ⟨w.heap.size + 2, 0, none⟩ (.bool true)) := TW.out.setCell (p := ⟨w.heap.size + 2, 0, none⟩) (fun h => absurd h (by simp)) _
          generalize V.setCell ⟨w.heap.size + 2, 0, none⟩ (.bool true) = w9 at *
          have u1 : Turn (fun g => g = D) w9 (w9.putObj D (.deferred none)) := Turn.putObj _ D _ rfl
          have b10 := b9.turn u1 (fun e => by rw [← e, show w9.heap[w.heap.size + 2]? = _ from b9] at k1; cases k1)
          have h11 := b10.cell 0
          refine ⟨by simp, .inl ⟨_, _, rfl, run_takeDeferred k1, ?_⟩⟩
          refine ⟨.bool true, ?_, rfl, ?_⟩
          · simp [results, Try.f5, go_sem, h11]
          · exact (t9.fresh u1 (fun g e => by rw [e]; exact HDD.out)).below (Nat.le_refl _) (fun _ f => f.elim)

set_option maxRecDepth 100000 in
set_option maxRecDepth 100000 in
theorem lifted (os : Os) (started : os.Started) (H : Type) (enc : TypeId × Value → H) :
    ReturnsInHanded {} Try.checked os 5 .any (Rows.segLooksSpec.pre6 enc Try.prog Try.f5 Rows.segLooksRow.domain false) (Rows.segLooksSpec.post enc Try.prog Try.f5 false true false false) := by
  refine returnsInHanded_of_change (C := Try.checked) own started (by kernel_rfl) Try.func5
    (ChangeSpec.witness6 (enc := enc) (C := Try.checked) false ⟨#[], #[.slice none 0 0, .int .i64 0, .int .i64 0, .agg #[.int .i64 0, .string ⟨#[]⟩, .string ⟨#[]⟩, .string ⟨#[]⟩, .string ⟨#[]⟩], .int .i64 0], []⟩ 8 (by kernel_rfl) (by kernel_rfl) (by kernel_rfl) (by kernel_rfl)) ?_
  intro W base args ds gs before hval0 hW hcnd _
  have hval : ∀ (j : Nat) t v, Try.f5.params[j]? = some t → args[j]? = some v → Value.okWide Try.prog W .any base t v := hval0
  have hW' := hW
  obtain ⟨p, q, hA0, hV, rfl, hfz, hnd⟩ := hW
  have hA : DataW.TrodAll enc Try.prog W 0 (fun _ => true) true Try.f5.params.toList args.toList ds p := hA0
  rw [Try.params5] at hA hval
  obtain ⟨v0, vs0, d0, ds0, p0, q0, hargs, rfl, rfl, h0, r0⟩ := trodAll_cons hA
  obtain ⟨v1, vs1, d1, ds1, p1, q1, rfl, rfl, rfl, h1, r1⟩ := trodAll_cons r0
  obtain ⟨v2, vs2, d2, ds2, p2, q2, rfl, rfl, rfl, h2, r2⟩ := trodAll_cons r1
  obtain ⟨v3, vs3, d3, ds3, p3, q3, rfl, rfl, rfl, h3, r3⟩ := trodAll_cons r2
  obtain ⟨v4, vs4, d4, ds4, p4, q4, rfl, rfl, rfl, h4, r4⟩ := trodAll_cons r3
  obtain ⟨rfl, rfl, rfl⟩ := trodAll_nil r4
  obtain rfl : args = #[v0, v1, v2, v3, v4] := by cases args; simp_all
  obtain ⟨rfl, rfl⟩ := trodVars_none hV
  have k0 := h0
  have lt0 : ∀ x ∈ p0, x.block < W.heap.size := by obtain ⟨m, hm⟩ := k0; exact DataW.trod_lt m _ _ _ hm
  obtain ⟨a0, len0, cap0, rfl⟩ := okWide_slice Try.underlying23 (hval 0 23 v0 rfl rfl)
  obtain ⟨l0, hp0, hl0, hf0⟩ := open_rows11 rfl h0
  obtain ⟨a1, rfl, rfl, rfl, w1⟩ := open_int Try.underlying2 (hval 1 2 v1 rfl rfl) h1
  obtain ⟨a2, rfl, rfl, rfl, w2⟩ := open_int Try.underlying2 (hval 2 2 v2 rfl rfl) h2
  have k3 := h3
  have lt3 : ∀ x ∈ p3, x.block < W.heap.size := by obtain ⟨m, hm⟩ := k3; exact DataW.trod_lt m _ _ _ hm
  obtain ⟨ky3, hk3⟩ := open_key9 (hval 3 44 v3 rfl rfl) h3
  subst hk3
  obtain ⟨a4, rfl, rfl, rfl, w4⟩ := open_int Try.underlying3 (hval 4 3 v4 rfl rfl) h4
  clear hA0 hval0
  refine (walk _ l0 a1 w1 a2 w2 ky3 a4 w4 W hp0 hl0 hf0).mono fun e W' ⟨he, bel⟩ => ?_
  subst he
  exact ⟨_, rfl, _, _, _, [], _, [], hW', trodAll_mk1 (shut_bool Try.underlying4 _), (trodAll_cons_mk (Below.trod laidOut (by kernel_rfl) (of_decide_eq_true (by kernel_rfl)) k0 bel lt0) (trodAll_cons_mk (shut_int Try.underlying2 w1) (trodAll_cons_mk (shut_int Try.underlying2 w2) (trodAll_cons_mk (Below.trod laidOut (by kernel_rfl) (of_decide_eq_true (by kernel_rfl)) k3 bel lt3) (trodAll_cons_mk (shut_int Try.underlying3 w4) trodAll_mk0))))), rfl, bel.frame _, fun h => by cases h⟩

theorem over : Rows.segLooksRow.holds Try.pinned (OpenSpec.ofChange Rows.segLooksSpec) :=
  OpenClaim.holds_of_wide 5 Try.f5 rfl rfl rfl rfl rfl rfl rfl ⟨rfl, rfl, rfl, rfl, rfl⟩ rfl rfl rfl rfl rfl (by kernel_rfl) Try.func5 (by kernel_rfl)
    (of_decide_eq_true (by kernel_rfl)) (by unfold Func.isWrapper; first | (rw [if_pos (by decide +kernel)]; kernel_rfl) | (rw [if_neg (by decide +kernel)]; exact ⟨rfl, rfl⟩))
    (fun os started H enc _ => lifted os started H enc)

theorem proved : Rows.SegLooksSaid := over
#print axioms proved
end Go.Proofs.Ytnnlgeldjjknmaa.segLooks
