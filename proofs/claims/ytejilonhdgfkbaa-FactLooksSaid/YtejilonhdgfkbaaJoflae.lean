/-
  Texts laid one behind the other: Mc Md Me Zf Of Og Oh Oi.
-/
import Derived.Test.YtejilonhdgfkbaaJoflad
import Derived.Deep.RegionHeld3
import Derived.Test.YtejilonhdgfkbaaJoflab
import Derived.Test.YtejilonhdgfkbaaJoflaa
import Derived.Test.YtejilonhdgfkbaaJoflac
import Derived.RegionTactic
import Derived.ChangeAlike
import Derived.Deep.QuietTactic
import Derived.BigQuiet
import Derived.WalkMore

/-
  Two cells together, by the program and by the document.
-/
namespace Go.Proofs.Ytejilonhdgfkbaa
open Go.RowKit

/-- What a call that makes a cell answers. -/
def outC : Option Cl → Value
  | some c => .tuple #[cv c, .bool true]
  | none => .tuple #[cv Cl.zero, .bool false]
theorem okC_zero : okC Cl.zero := ⟨rfl, rfl, rfl, rfl⟩
theorem okC_of {v : Int} (h : fit v = true) : okC (Cl.of v) := ⟨rfl, h, h, h⟩
theorem okC_merge {a b c : Cl} (ha : okC a) (hb : okC b) (h : mergeC a b = some c) : okC c := by
  unfold mergeC at h
  split at h
  · cases h
    exact hb
  · split at h
    · cases h
      exact ha
    · split at h
      · rename_i g
        rw [Bool.and_eq_true] at g
        cases h
        obtain ⟨_, _, a3, a4⟩ := ha
        obtain ⟨_, _, b3, b4⟩ := hb
        refine ⟨g.1, g.2, ?_, ?_⟩
        · show fit (min a.lo b.lo) = true
          rw [fit_iff] at *
          omega
        · show fit (max a.hi b.hi) = true
          rw [fit_iff] at *
          omega
      · cases h
theorem merge_l {n : Int} (s lo hi : Int) (b : Cl) (h : n = 0) : Ending.returned (.tuple #[cv b, .bool true]) = .returned (outC (mergeC ⟨n, s, lo, hi⟩ b)) := by
  unfold mergeC
  rw [if_pos h]
  rfl
theorem merge_r {m : Int} (t lo' hi' : Int) (a : Cl) (h : ¬ a.n = 0) (g : m = 0) : Ending.returned (.tuple #[cv a, .bool true]) = .returned (outC (mergeC a ⟨m, t, lo', hi'⟩)) := by
  unfold mergeC
  rw [if_neg h, if_pos g]
  rfl
theorem merge_no {a b : Cl} (h0 : ¬ a.n = 0) (h1 : ¬ b.n = 0) (h : fit (a.n + b.n) = false ∨ fit (a.s + b.s) = false) : Ending.returned (.tuple #[cv Cl.zero, .bool false]) = .returned (outC (mergeC a b)) := by
  unfold mergeC
  rw [if_neg h0, if_neg h1, if_neg (by rcases h with h | h <;> rw [h] <;> simp)]
  rfl
theorem merge_yes {a b : Cl} (h0 : ¬ a.n = 0) (h1 : ¬ b.n = 0) (ha : fit (a.n + b.n) = true) (hb : fit (a.s + b.s) = true) {LO HI : Int} (g1 : LO = min a.lo b.lo) (g2 : HI = max a.hi b.hi) :
    Ending.returned (.tuple #[.agg #[.int .i64 (a.n + b.n), .int .i64 (a.s + b.s), .int .i64 LO, .int .i64 HI], .bool true]) = .returned (outC (mergeC a b)) := by
  subst g1 g2
  unfold mergeC
  rw [if_neg h0, if_neg h1, if_pos (by rw [ha, hb]; rfl)]
  rfl

end Go.Proofs.Ytejilonhdgfkbaa

/-
  The cell of values, by the program and by the document.
-/
namespace Go.Proofs.Ytejilonhdgfkbaa
open Go.RowKit

/-- A cell's numbers, in memory. -/
def ca (c : Cl) : Array Value := #[.int .i64 c.n, .int .i64 c.s, .int .i64 c.lo, .int .i64 c.hi]
theorem box_cells {w : World} {g : Nat} {t : TypeId} {n s lo hi : Int} (h : Box w g t (ca ⟨n, s, lo, hi⟩)) :
    (w.cell? ⟨g, 0, none⟩ = some (.int .i64 n) ∧ w.cell? ⟨g, 1, none⟩ = some (.int .i64 s) ∧ w.cell? ⟨g, 2, none⟩ = some (.int .i64 lo) ∧ w.cell? ⟨g, 3, none⟩ = some (.int .i64 hi)) ∧
    (w.frozen? ⟨g, 0, none⟩ = false ∧ w.frozen? ⟨g, 1, none⟩ = false ∧ w.frozen? ⟨g, 2, none⟩ = false ∧ w.frozen? ⟨g, 3, none⟩ = false) :=
  ⟨⟨h.cell 0, h.cell 1, h.cell 2, h.cell 3⟩, ⟨h.free 0, h.free 1, h.free 2, h.free 3⟩⟩
theorem box_set4 {w : World} {g : Nat} {t : TypeId} {c : Cl} {n s lo hi : Int} (h : Box w g t (ca c)) :
    Box ((((w.setCell ⟨g, 0, none⟩ (.int .i64 n)).setCell ⟨g, 1, none⟩ (.int .i64 s)).setCell ⟨g, 2, none⟩ (.int .i64 lo)).setCell ⟨g, 3, none⟩ (.int .i64 hi)) g t (ca ⟨n, s, lo, hi⟩) :=
  (((h.set 0 _).set 1 _).set 2 _).set 3 _
theorem turn_set4 {S : Nat → Prop} {w0 w : World} {g : Nat} {a b c d : Value} (h : Turn S w0 w) (hg : g < w0.heap.size → S g) :
    Turn S w0 ((((w.setCell ⟨g, 0, none⟩ a).setCell ⟨g, 1, none⟩ b).setCell ⟨g, 2, none⟩ c).setCell ⟨g, 3, none⟩ d) :=
  (((h.setCell hg _).setCell hg _).setCell hg _).setCell hg _

theorem outC_shape (o : Option Cl) : ∃ n s lo hi, outC o = .tuple #[.agg #[.int .i64 n, .int .i64 s, .int .i64 lo, .int .i64 hi], .bool o.isSome] ∧ o.getD Cl.zero = ⟨n, s, lo, hi⟩ := by
  cases o with
  | none => exact ⟨0, 0, 0, 0, rfl, rfl⟩
  | some c => exact ⟨c.n, c.s, c.lo, c.hi, rfl, rfl⟩

theorem all_no {l : List Int} {k : Nat} {c : Cl} {x : Int} (h : allC (l.take k) = some c) (hx : l[k]? = some x) (hm : mergeC c (Cl.of x) = none) : Ending.returned (.tuple #[cv Cl.zero, .bool false]) = .returned (outC (allC l)) := by
  have : allC (l.take (k + 1)) = none := by rw [allC_take hx, h]; exact hm
  rw [allC_none this]
  rfl
theorem all_yes {l : List Int} {k : Nat} {c : Cl} (h : allC (l.take k) = some c) (hk : k = l.length) : Ending.returned (.tuple #[cv c, .bool true]) = .returned (outC (allC l)) := by
  rw [hk, List.take_length] at h
  rw [h]
  rfl

end Go.Proofs.Ytejilonhdgfkbaa

/-
  The weight of values, by the program and by the document.
-/
namespace Go.Proofs.Ytejilonhdgfkbaa
open Go.RowKit

/-- What Weight answers, as a value. -/
def weighV (l : List Int) : Value := .tuple #[.int .i64 (weighO l).1, .bool (weighO l).2]
theorem weigh_no {l : List Int} {k n : Nat} {x : Int} (hn : weighN (l.take k) = n) (hx : l[k]? = some x) (h : ¬ n + x.natAbs ≤ 4611686018427387904) : Ending.returned (.tuple #[.int .i64 0, .bool false]) = .returned (weighV l) := by
  unfold weighV
  rw [weighO_no (k := k + 1) (by rw [weighN_take hx, hn]; exact h)]
  rfl
theorem weigh_yes {l : List Int} {k n : Nat} (hn : weighN (l.take k) = n) (hk : k = l.length) (h : n ≤ 4611686018427387904) {z : Int} (hz : z = n) : Ending.returned (.tuple #[.int .i64 z, .bool true]) = .returned (weighV l) := by
  rw [hk, List.take_length] at hn
  unfold weighV
  rw [weighO_yes (by rw [hn]; exact h), hn, hz]

set_option maxRecDepth 100000 in
set_option maxHeartbeats 2000000 in
theorem weight_any (v : Value) (l : List Int) (w : World) (hv : RdN .i64 w v l) (hl : l.length ≤ 1000000) (hf : ∀ x ∈ l, fit x = true) :
    Calls Try.prog 34 #[v] w fun e w' => e = .returned (weighV l) ∧ w = w' := by
  have HV := Lib.hid hv
  have HF := Lib.hid hf; clear hf
  obtain ⟨A, c, rfl, _⟩ := hv
  go_enter Try.func34, Try.ntmps34
  go_wp2_with fail
  go_loop [4, 10] (fun x4 x10 => ∃ k n : Nat, x4 = .int .u64 n ∧ x10 = .int .i64 k ∧ k ≤ l.length ∧ weighN (l.take k) = n ∧ n ≤ 4611686018427387904) (fun _ x10 => l.length - (intOf x10).toNat)
  case atStart => exact ⟨0, 0, rfl, rfl, Nat.zero_le _, rfl, by omega⟩
  case round =>
    obtain ⟨k, n, rfl, rfl, hk, hw, hn⟩ := hrel
    have HW := Lib.hid hw; clear hw
    have HN := Lib.hid hn; clear hn
    by_cases hlt : k < l.length
    · obtain ⟨x, hx⟩ : ∃ x, l[k]? = some x := ⟨_, List.getElem?_eq_getElem hlt⟩
      obtain ⟨ad, rfl, hcell⟩ := HV.out.at hx
      have HX := Lib.hid hx; clear hx
      have HS := Lib.hid (cell_size x · (HF.out x (List.mem_of_getElem? HX.out)))
      have he : IntKind.u64.wrap (4611686018427387904 - (n : Int)) = 4611686018427387904 - n := by rw [IntKind.wrap_u64]; have := HN.out; omega
      by_cases hm : n + x.natAbs ≤ 4611686018427387904
      · have hg : decide (4611686018427387904 - (n : Int) < (x.natAbs : Int)) = false := decide_eq_false (by omega)
        have ha : IntKind.u64.wrap ((n : Int) + (x.natAbs : Int)) = ((n + x.natAbs : Nat) : Int) := by rw [IntKind.wrap_u64]; omega
        have HM := Lib.hid hm; clear hm
        generalize hj : x.natAbs = m at *
        go_wp2_with (go_at_call 58; (with_reducible refine (HS.out _).mono ?_); rintro e w' ⟨rfl, rfl⟩)
        go_round
        case rel => exact ⟨k + 1, n + m, rfl, by go_num, by omega, by rw [weighN_take HX.out, HW.out, hj], HM.out⟩
        case measure => simp [intOf]; omega
      · have hg : decide (4611686018427387904 - (n : Int) < (x.natAbs : Int)) = true := decide_eq_true (by omega)
        have HR := Lib.hid (weigh_no HW.out HX.out hm); clear hm
        generalize hj : x.natAbs = m at *
        go_wp2_with (go_at_call 58; (with_reducible refine (HS.out _).mono ?_); rintro e w' ⟨rfl, rfl⟩)
        go_ret2
        exact ⟨HR.out, rfl⟩
    · have he : IntKind.i64.wrap (n : Int) = n := IntWalk.i64_in _ (by have := HN.out; omega)
      have HR := Lib.hid (weigh_yes HW.out (by omega) HN.out rfl)
      go_wp2
      go_ret2
      exact ⟨HR.out, rfl⟩

set_option maxRecDepth 100000 in
set_option maxHeartbeats 2000000 in
theorem ref_weight (v : Value) (l : List Int) (w : World) (hv : RdN .i64 w v l) (hl : l.length ≤ 1000000) :
    Calls Try.prog 35 #[v] w fun e w' => e = .returned (weighV l) ∧ w = w' := by
  have HV := Lib.hid hv
  obtain ⟨A, c, rfl, _⟩ := hv
  go_enter Try.func35, Try.ntmps35
  go_wp2_with fail
  go_loop [4, 5] (fun x4 x5 => ∃ k n : Nat, x4 = .int .i64 n ∧ x5 = .int .i64 k ∧ k ≤ l.length ∧ weighN (l.take k) = n ∧ n ≤ 4611686018427387904) (fun _ x5 => l.length - (intOf x5).toNat)
  case atStart => exact ⟨0, 0, rfl, rfl, Nat.zero_le _, rfl, by omega⟩
  case round =>
    obtain ⟨k, n, rfl, rfl, hk, hw, hn⟩ := hrel
    have HW := Lib.hid hw; clear hw
    have HN := Lib.hid hn; clear hn
    by_cases hlt : k < l.length
    · obtain ⟨x, hx⟩ : ∃ x, l[k]? = some x := ⟨_, List.getElem?_eq_getElem hlt⟩
      obtain ⟨ad, rfl, hcell⟩ := HV.out.at hx
      have HX := Lib.hid hx; clear hx
      have HS := Lib.hid (ref_size x ·)
      have he : wrap64 (4611686018427387904 - (n : Int)) = 4611686018427387904 - n := by unfold wrap64; have := HN.out; omega
      have hc := sizeC_over (x := x) HN.out
      by_cases hm : n + x.natAbs ≤ 4611686018427387904
      · have hg : decide (4611686018427387904 - (n : Int) < (sizeC x : Int)) = false := decide_eq_false (fun g => hc.1 g hm)
        have hs := sizeC_small hm
        have ha : wrap64 ((n : Int) + (sizeC x : Int)) = ((n + x.natAbs : Nat) : Int) := by rw [hs]; unfold wrap64; omega
        have HM := Lib.hid hm; clear hm hc hs
        generalize sizeC x = m at *
        go_wp2_with (go_at_call 59; (with_reducible refine (HS.out _).mono ?_); rintro e w' ⟨rfl, rfl⟩)
        go_round
        case rel => exact ⟨k + 1, n + x.natAbs, by rw [ha], by go_num, by omega, by rw [weighN_take HX.out, HW.out], HM.out⟩
        case measure => simp [intOf]; omega
      · have hg : decide (4611686018427387904 - (n : Int) < (sizeC x : Int)) = true := decide_eq_true (hc.2 hm)
        have HR := Lib.hid (weigh_no HW.out HX.out hm); clear hm hc
        generalize sizeC x = m at *
        go_wp2_with (go_at_call 59; (with_reducible refine (HS.out _).mono ?_); rintro e w' ⟨rfl, rfl⟩)
        go_ret2
        exact ⟨HR.out, rfl⟩
    · have HR := Lib.hid (weigh_yes HW.out (by omega) HN.out rfl)
      go_wp2
      go_ret2
      exact ⟨HR.out, rfl⟩

end Go.Proofs.Ytejilonhdgfkbaa

/-
  Stage 9: facts held against each other; which facts are light; the document's Weight.
-/
namespace Go.Proofs.Ytejilonhdgfkbaa
open Go.RowKit

set_option maxRecDepth 100000

set_option maxHeartbeats 4000000 in
theorem same_refl9 (a b : Value) (L : List F9) (w : World) (ha : RdE EF w a L) (hb : RdE EF w b L) (hl : L.length ≤ 1000000) :
    Calls Try.prog 21 #[a, b] w fun e w' => e = .returned (.bool true) ∧ Turn (fun _ => False) w w' := by
  have HA := Lib.hid ha; have HB := Lib.hid hb
  obtain ⟨A, c, rfl⟩ := ha.shape
  obtain ⟨B, d, rfl⟩ := hb.shape
  clear ha hb
  go_enter Try.func21, Try.ntmps21
  go_wp2_with fail
  go_loopw [5] (fun x5 wr => ∃ i : Nat, x5 = .int .i64 (i : Int) ∧ i ≤ L.length ∧ ∃ n, wr = w.drewN n) (fun x5 _ => L.length - (intOf x5).toNat)
  case atStart => exact ⟨0, rfl, Nat.zero_le _, 0, rfl⟩
  case round =>
    obtain ⟨i, rfl, hi, n, rfl⟩ := hrel
    by_cases hlt : i < L.length
    · obtain ⟨x, hx⟩ : ∃ x, L[i]? = some x := ⟨_, List.getElem?_eq_getElem hlt⟩
      obtain ⟨ad, rfl, hc⟩ := fact_at6 HA.out hx
      obtain ⟨bd, rfl, hd⟩ := fact_at6 HB.out hx
      obtain ⟨c0, c1, c2, c3, c4, c5⟩ := hc w (Turn.refl _ _)
      obtain ⟨d0, d1, d2, d3, d4, d5⟩ := hd w (Turn.refl _ _)
      clear hc hd hx
      have hil : (i : Int) < L.length := by omega
      have hne := run_neq_fact x x
      have hgd := fun X Y => guard_fact9 .neq X Y x x
      rw [decide_eq_true rfl, Bool.not_true] at hne
      go_wp2_with fail
      go_quiet (fail)
      go_wp2
      go_roundw
      case rel => exact ⟨i + 1, by go_num, hlt, n + nq, by simp [World.drewN]⟩
      case measure => simp [intOf]; omega
    · obtain rfl : i = L.length := by omega
      go_wp2
      go_ret
      exact ⟨rfl, (Turn.refl _ w).drewN _⟩

/-- Facts that are few, and short. -/
def short9 (f : F9) : Bool := decide (f.k.a.length ≤ 40) && decide (f.k.b.length ≤ 40) && decide (f.k.c.length ≤ 40) && decide (f.k.d.length ≤ 40)
def light9 (l : List F9) : Bool := decide (l.length ≤ 100) && l.all short9
theorem short_all9 {f : F9} (h : ∀ k, k < 4 → (f.k.dim k).length ≤ 40) : short9 f = true := by
  have e0 := h 0 (by omega)
  have e1 := h 1 (by omega)
  have e2 := h 2 (by omega)
  have e3 := h 3 (by omega)
  simp only [K9.dim] at e0 e1 e2 e3
  simp [short9, e0, e1, e2, e3]
theorem short_not9 {f : F9} {k : Nat} (hk : k < 4) (h : ¬ (f.k.dim k).length ≤ 40) : short9 f = false := by
  match k, hk with
  | 0, _ => simp only [K9.dim] at h; simp [short9, h]
  | 1, _ => simp only [K9.dim] at h; simp [short9, h]
  | 2, _ => simp only [K9.dim] at h; simp [short9, h]
  | 3, _ => simp only [K9.dim] at h; simp [short9, h]
theorem light_not9 {l : List F9} {i : Nat} {f : F9} (h : l[i]? = some f) (hf : short9 f = false) : light9 l = false := by
  unfold light9
  rw [Bool.and_eq_false_iff]
  right
  rw [← Bool.not_eq_true, List.all_eq_true]
  intro hall
  rw [hall f (List.mem_of_getElem? h)] at hf
  cases hf
theorem light_all9 {l : List F9} (hl : l.length ≤ 100) (h : ∀ (i : Nat) (f : F9), i < l.length → l[i]? = some f → short9 f = true) : light9 l = true := by
  unfold light9
  rw [Bool.and_eq_true, decide_eq_true_iff, List.all_eq_true]
  refine ⟨hl, fun f hf => ?_⟩
  obtain ⟨i, hi, e⟩ := List.getElem_of_mem hf
  exact h i f hi (by rw [List.getElem?_eq_getElem hi, e])

set_option maxHeartbeats 4000000 in
theorem light_any9 (v : Value) (l : List F9) (w : World) (hv : RdE EF w v l) (hl : l.length ≤ maxLen) : Calls Try.prog 11 #[v] w fun e w' => e = .returned (.bool (light9 l)) ∧ w' = w := by
  have HV := Lib.hid hv
  obtain ⟨A, c, rfl⟩ := hv.shape
  unfold maxLen at hl
  clear hv
  by_cases h100 : l.length ≤ 100
  · have h100' : (l.length : Int) ≤ 100 := by omega
    go_enter Try.func11, Try.ntmps11
    go_wp2_with fail
    go_loopw [3] (fun x3 wr => wr = w ∧ ∃ i : Nat, x3 = .int .i64 (i : Int) ∧ i ≤ l.length ∧ ∀ k f, k < i → l[k]? = some f → short9 f = true) (fun x3 _ => l.length - (intOf x3).toNat)
    case atStart => exact ⟨rfl, 0, rfl, Nat.zero_le _, fun k f hk => absurd hk (Nat.not_lt_zero k)⟩
    case round =>
      obtain ⟨rfl, i, rfl, hi, he⟩ := hrel
      have HE := Lib.hid he
      clear he
      by_cases hlt : i < l.length
      · obtain ⟨f, hf⟩ : ∃ f, l[i]? = some f := ⟨_, List.getElem?_eq_getElem hlt⟩
        obtain ⟨ad, rfl, hc⟩ := fact_at HV.out hf
        have hil : (i : Int) < l.length := by omega
        have HC := Lib.hid hc
        have HF := Lib.hid hf
        clear hc hf
        go_wp2_with fail
        go_loopw [4] (fun x4 wk => wk = wr ∧ ∃ k : Nat, x4 = .int .i64 (k : Int) ∧ k ≤ 4 ∧ ∀ j, j < k → (f.k.dim j).length ≤ 40) (fun x4 _ => 4 - (intOf x4).toNat)
        case atStart => exact ⟨rfl, 0, rfl, Nat.zero_le _, fun k hk => absurd hk (Nat.not_lt_zero k)⟩
        case round =>
          obtain ⟨rfl, k, rfl, hk, hd⟩ := hrel
          have HD := Lib.hid hd
          clear hd
          by_cases hk4 : k < 4
          · have e1 := (HC.out _ (Turn.refl _ _)).2.1 k hk4
            have hkl : (k : Int) < 4 := by omega
            rw [← Nat.add_assoc] at e1
            unfold sv9 at e1
            generalize hT : f.k.dim k = T at *
            by_cases hlen : T.length ≤ 40
            · have hli : (T.length : Int) ≤ 40 := by omega
              go_wp2_with fail
              go_roundw
              case rel => exact ⟨trivial, k + 1, by go_num, hk4, fun j hj => by
                by_cases ej : j = k
                · rw [ej, hT]; exact hlen
                · exact HD.out j (by omega)⟩
              case measure => simp [intOf]; omega
            · have hli : ¬ ((T.length : Int) ≤ 40) := by omega
              have HK := Lib.hid (light_not9 HF.out (short_not9 hk4 (by rw [hT]; exact hlen)))
              go_wp2_with fail
              go_ret
              rw [HK.out]
              exact ⟨rfl, rfl⟩
          · obtain rfl : k = 4 := by omega
            have HK := Lib.hid (short_all9 HD.out)
            go_wp2_with fail
            go_roundw
            case rel => exact ⟨trivial, i + 1, by go_num, hlt, fun j g hj hg => by
              by_cases ej : j = i
              · subst ej
                rw [HF.out] at hg
                cases hg
                exact HK.out
              · exact HE.out j g (by omega) hg⟩
            case measure => simp [intOf]; omega
      · obtain rfl : i = l.length := by omega
        have HK := Lib.hid (light_all9 h100 HE.out)
        go_wp2
        go_ret
        rw [HK.out]
        exact ⟨rfl, rfl⟩
  · have h100' : ¬ ((l.length : Int) ≤ 100) := by omega
    have e : light9 l = false := by simp [light9, h100]
    rw [e]
    go_enter Try.func11, Try.ntmps11
    go_wp2
    go_ret
    exact ⟨rfl, rfl⟩

/-- What the document's Weight answers. -/
def values9 (l : List F9) : List Int := l.map (·.v)
set_option maxHeartbeats 4000000 in
theorem ref_weight9 (v : Value) (l : List F9) (w : World) (hv : RdE EF w v l) (hl : l.length ≤ 1000) : Calls Try.prog 17 #[v] w fun e w' => e = .returned (weighV (values9 l)) ∧ Turn (fun _ => False) w w' := by
  have HV := Lib.hid hv
  obtain ⟨A, c, rfl⟩ := hv.shape
  clear hv
  have HN0 := Lib.hid (NewE.start (E := EN9) (e := 2) w 0)
  go_enter Try.func17, Try.ntmps17
  go_wp2_with fail
  go_loopw [4, 5] (fun x4 x5 wr => ∃ i : Nat, x5 = .int .i64 (i : Int) ∧ i ≤ l.length ∧ NewE EN9 2 w wr x4 (values9 (l.take i))) (fun _ x5 _ => l.length - (intOf x5).toNat)
  case atStart => exact ⟨0, rfl, Nat.zero_le _, HN0.out⟩
  case round =>
    obtain ⟨i, rfl, hi, hm⟩ := hrel
    have HM := Lib.hid hm
    obtain ⟨A2, c2, hv⟩ := hm.own.shape
    have hti : (values9 (l.take i)).length = i := by unfold values9; rw [List.length_map, List.length_take]; omega
    rw [hti] at hv
    subst hv
    clear hm
    by_cases hlt : i < l.length
    · obtain ⟨f, hf⟩ : ∃ f, l[i]? = some f := ⟨_, List.getElem?_eq_getElem hlt⟩
      obtain ⟨ad, rfl, hc⟩ := fact_at HV.out hf
      have e5 := (hc wr HM.out.turn).2.2
      have hil : (i : Int) < l.length := by omega
      have HTK : Hid (values9 (l.take (i + 1)) = values9 (l.take i) ++ [f.v]) := by
        obtain ⟨h0, e⟩ := List.getElem?_eq_some_iff.1 hf
        rw [List.take_succ_eq_append_getElem h0, e]
        unfold values9
        rw [List.map_append]
        rfl
      have HN1 := Lib.hid (HM.out.alloc (.cells #[.int .i64 f.v] 2))
      have HSR := Lib.hid (one_row EN9 2 wr f.v)
      clear hc hf
      go_wp2_with (at_builtin; refine wpList_nums9 _ rfl _ _ rfl _ _ rfl HN1.out.own _ rfl [f.v] HSR.out (by simp only [List.length_cons, List.length_nil, hti]; omega) ?_; intro A3 n3 c3 w3 ho ht hn; have HN3 := Lib.hid (HN1.out.step ho ht hn); clear ho ht hn)
      go_roundw
      case rel => exact ⟨i + 1, by go_num, hlt, by rw [HTK.out]; exact HN3.out⟩
      case measure => simp [intOf]; omega
    · obtain rfl : i = l.length := by omega
      have HM2 : Hid (NewE EN9 2 w wr (.slice A2 l.length c2) (values9 l)) := by have h := HM.out; rwa [List.take_length] at h
      have hvl : (values9 l).length ≤ 1000000 := by unfold values9; rw [List.length_map]; omega
      go_wp2_with fail
      refine (ref_weight _ (values9 l) wr (rd_num9 HM2.out.own.rd) hvl).mono ?_
      unfold weighV
      rintro e w2 ⟨rfl, rfl⟩
      go_wp2
      go_ret2
      exact ⟨rfl, HM2.out.turn⟩

end Go.Proofs.Ytejilonhdgfkbaa

/-
  The reader.
-/
namespace Go.Proofs.Ytejilonhdgfkbaa
open Go.RowKit

/-- A reader in block p: of bytes l, at k, with fault f. -/
def Rdr (w : World) (p : Nat) (v : Value) (l : List UInt8) (k f : Nat) : Prop :=
  Box w p 96 #[v, .int .i64 k, .int .i64 f] ∧ By w v l ∧ k ≤ l.length ∧ l.length ≤ 1000000

theorem Rdr.turn {w w' : World} {p : Nat} {v : Value} {l : List UInt8} {k f : Nat} {S : Nat → Prop} (h : Rdr w p v l k f) (ht : Turn S w w') (h1 : ¬ S p) (h2 : ∀ g, v.ownBlock = some g → ¬ S g) : Rdr w' p v l k f :=
  ⟨h.1.turn ht h1, h.2.1.turn ht h2, h.2.2⟩

/-- Behind a call on a reader. -/
def Moved (w : World) (p : Nat) (v : Value) (l : List UInt8) (w' : World) (k f : Nat) : Prop := Rdr w' p v l k f ∧ Turn (fun g => g = p) w w'

set_option maxRecDepth 100000 in
set_option maxHeartbeats 400000 in
theorem fault_any (p : Nat) (v : Value) (l : List UInt8) (k f : Nat) (w : World) (h : Rdr w p v l k f) :
    Calls Try.prog 67 #[.pointer (some ⟨p, 0, none⟩)] w fun e w' => e = .returned (.int .i64 f) ∧ w = w' := by
  have hc : w.cell? ⟨p, 2, none⟩ = some (.int .i64 f) := h.1.cell 2
  clear h
  go_enter Try.func67, Try.ntmps67
  go_wp2
  go_ret
  exact ⟨rfl, rfl⟩

set_option maxRecDepth 100000 in
set_option maxHeartbeats 400000 in
theorem left_any (p : Nat) (v : Value) (l : List UInt8) (k f : Nat) (w : World) (h : Rdr w p v l k f) :
    Calls Try.prog 51 #[.pointer (some ⟨p, 0, none⟩)] w fun e w' => e = .returned (.int .i64 ((l.length - k : Nat) : Int)) ∧ ∃ n, w' = w.drewN n := by
  obtain ⟨A, c, hv, _⟩ := h.2.1.rd
  subst hv
  have hc : w.cell? ⟨p, 0, none⟩ = some (.slice A l.length c) := h.1.cell 0
  have hd : w.cell? ⟨p, 1, none⟩ = some (.int .i64 k) := h.1.cell 1
  have h1 := h.2.2.1
  have h2 := h.2.2.2
  clear h
  go_enter Try.func51, Try.ntmps51
  go_wp2
  go_quiet (fail)
  go_wp2
  go_ret
  refine ⟨ret_int ?_, _, rfl⟩
  omega

set_option maxRecDepth 100000 in
set_option maxHeartbeats 400000 in
theorem take_no (p : Nat) (v : Value) (l : List UInt8) (k f : Nat) (n : Nat) (w : World) (h : Rdr w p v l k f) (hn : l.length - k < n) :
    Calls Try.prog 104 #[.pointer (some ⟨p, 0, none⟩), .int .i64 n] w fun e w' => e = .returned (.tuple #[.slice none 0 0, .int .i64 3]) ∧ ∃ n, w' = w.drewN n := by
  have HR := Lib.hid h; clear h
  have H1 : l.length - k < n := hn
  go_enter Try.func104, Try.ntmps104
  go_wp2_with (go_at_call 51; refine (left_any p v l k f w HR.out).mono ?_; rintro e w1 ⟨rfl, m, rfl⟩)
  go_ret2
  exact ⟨rfl, _, rfl⟩

theorem take_moved {p : Nat} {A : Option Addr} {c : Nat} {l : List UInt8} {k f n : Nat} {w : World} (h : Rdr w p (.slice A l.length c) l k f) (hn : n ≤ l.length - k) (m : Nat) :
    Moved w p (.slice A l.length c) l ((w.drewN m).setCell ⟨p, 1, none⟩ (.int .i64 ((k : Int) + n))) (k + n) f := by
  obtain ⟨hb, hy, h1, h2⟩ := h
  have hne : (Value.slice A l.length c).ownBlock ≠ some p := hy.ne_box hb (by decide)
  have t : Turn (fun g => g = p) w ((w.drewN m).setCell ⟨p, 1, none⟩ (.int .i64 ((k : Int) + n))) := ((Turn.refl (fun g => g = p) w).drewN m).setCell (p := ⟨p, 1, none⟩) (fun _ => rfl) _
  refine ⟨⟨?_, hy.turn t (fun g hg e => hne (by subst e; exact hg)), by omega, h2⟩, t⟩
  have hb2 : Box (w.drewN m) p 96 #[.slice A l.length c, .int .i64 k, .int .i64 f] := hb
  simpa using hb2.set 1 (.int .i64 ((k : Int) + n))

theorem take_rd0 {p : Nat} {A : Option Addr} {c : Nat} {l : List UInt8} {k f n : Nat} {w : World} (h : Rdr w p (.slice A l.length c) l k f) (hck : c = k) (hn : n ≤ l.length - k) (w' : World) :
    Rd w' (.slice A n 0) ((l.drop k).take n) := by
  have h3 := h.2.1.cap.2.1
  have h4 := h.2.2.1
  have e : n = 0 := by omega
  subst e
  rw [List.take_zero]
  exact ⟨A, 0, rfl, ⟨Nat.le_refl _, Nat.zero_le _⟩, fun _ => ⟨rfl, rfl⟩, fun _ _ j b hj => by simp at hj⟩

theorem take_rd {p : Nat} {A : Option Addr} {c : Nat} {l : List UInt8} {k f n : Nat} {w : World} (h : Rdr w p (.slice A l.length c) l k f) (hck : ¬ c = k) (hn : n ≤ l.length - k) (m : Nat) :
    Rd ((w.drewN m).setCell ⟨p, 1, none⟩ (.int .i64 ((k : Int) + n))) (.slice (A.map fun x => x.add k) n (c - k)) ((l.drop k).take n) := by
  have hm := take_moved h hn m
  obtain ⟨A', c', e, hfit, hnone, hcell⟩ := hm.1.2.1.rd
  injection e with e1 e2 e3
  subst e1 e3
  have h4 := h.2.2.1
  have hl : ((l.drop k).take n).length = n := by rw [List.length_take, List.length_drop]; omega
  refine ⟨A.map fun x => x.add k, c - k, by rw [hl], ⟨by omega, by omega⟩, ?_, ?_⟩
  · intro hA
    have h5 : A = none := by simpa using hA
    obtain ⟨h6, h7⟩ := hnone h5
    subst h6
    simp at h4
    omega
  · intro ad had j b hj
    obtain ⟨ad0, h5, rfl⟩ := Option.map_eq_some_iff.1 had
    rw [add_of_add]
    refine hcell ad0 h5 (k + j) b ?_
    rw [List.getElem?_take] at hj
    split at hj
    · rw [List.getElem?_drop] at hj
      exact hj
    · cases hj

set_option maxRecDepth 100000 in
set_option maxHeartbeats 400000 in
theorem take_yes (p : Nat) (A : Option Addr) (c : Nat) (l : List UInt8) (k f : Nat) (n : Nat) (w : World) (h : Rdr w p (.slice A l.length c) l k f) (hn : n ≤ l.length - k) :
    Calls Try.prog 104 #[.pointer (some ⟨p, 0, none⟩), .int .i64 n] w fun e w' => ∃ u, e = .returned (.tuple #[u, .int .i64 0]) ∧ Rd w' u ((l.drop k).take n) ∧ Moved w p (.slice A l.length c) l w' (k + n) f := by
  have hc : w.cell? ⟨p, 0, none⟩ = some (.slice A l.length c) := h.1.cell 0
  have hd : w.cell? ⟨p, 1, none⟩ = some (.int .i64 k) := h.1.cell 1
  have hf : w.frozen? ⟨p, 1, none⟩ = false := h.1.free 1
  have h1 := h.2.2.1
  have h2 := h.2.2.2
  have hcap := h.2.1.cap
  have HR := Lib.hid h; clear h
  have f1 : IntKind.i64.wrap ((k : Int) + n) = (k : Int) + n := IntWalk.i64_in _ (by omega)
  have f2 : ((k : Int) + n).toNat = k + n := by omega
  have f3 : (k : Int) ≤ (k : Int) + n := by omega
  have f4 : (k : Int) + n ≤ (c : Int) := by omega
  have f5 : 0 ≤ (k : Int) + n := by omega
  have HC := Lib.hid hcap; clear hcap
  by_cases hck : c = k
  · subst hck
    go_enter Try.func104, Try.ntmps104
    go_wp2_with (go_at_call 51; refine (left_any p _ l c f w HR.out).mono ?_; rintro e w1 ⟨rfl, m, rfl⟩)
    go_quiet (fail)
    go_wp2
    go_ret2
    exact ⟨.slice A n 0, rfl, take_rd0 HR.out rfl hn _, take_moved HR.out hn _⟩
  · go_enter Try.func104, Try.ntmps104
    go_wp2_with (go_at_call 51; refine (left_any p _ l k f w HR.out).mono ?_; rintro e w1 ⟨rfl, m, rfl⟩)
    go_quiet (fail)
    go_wp2
    go_ret2
    exact ⟨.slice (A.map fun x => x.add k) n (c - k), rfl, take_rd HR.out hck hn _, take_moved HR.out hn _⟩

end Go.Proofs.Ytejilonhdgfkbaa

/-
  A number read.
-/
namespace Go.Proofs.Ytejilonhdgfkbaa
open Go.RowKit

/-- What is read as a number, behind i bytes that came to acc: its value, the fault, how many bytes were taken. -/
def rdF : Nat → Nat → Nat → List UInt8 → Nat × Nat × Nat
  | 0, i, _, _ => (0, 4, i)
  | _ + 1, i, _, [] => (0, 3, i)
  | f + 1, i, acc, b :: l =>
    if 128 ≤ b.toNat then rdF f (i + 1) (acc + (b.toNat - 128) * 128 ^ i) l
    else if (0 < i ∧ b.toNat = 0) ∨ (i = 9 ∧ 1 < b.toNat) then (0, 4, i + 1) else (acc + b.toNat * 128 ^ i, 0, i + 1)
def rdNum (l : List UInt8) : Nat × Nat × Nat := rdF 10 0 0 l

/-- The method value r.take. -/
def tk (p : Nat) : Value := .func (.func 104) #[.pointer (some ⟨p, 0, none⟩)] #[]

def NumPost (p : Nat) (v : Value) (l : List UInt8) (k : Nat) (w : World) (e : Ending) (w' : World) : Prop :=
  e = .returned (.tuple #[.int .u64 (rdNum (l.drop k)).1, .int .i64 (rdNum (l.drop k)).2.1]) ∧ Moved w p v l w' (k + (rdNum (l.drop k)).2.2) 0

def NRel (p : Nat) (v : Value) (l : List UInt8) (k : Nat) (w : World) (x c : Value) (wr : World) (i acc : Nat) : Prop :=
  c = .int .i64 i ∧ i ≤ 10 ∧ (i < 10 → x = .int .u64 acc ∧ acc < 128 ^ i) ∧ rdF (10 - i) i acc (l.drop (k + i)) = rdNum (l.drop k) ∧ Moved w p v l wr (k + i) 0

theorem rdF_step (l : List UInt8) (k i acc : Nat) (hi : i < 10) (hl : k + i < l.length) (x : Nat) (hx : x = (l[k+i]?.getD 0).toNat) :
    rdF (10 - i) i acc (l.drop (k + i)) = if 128 ≤ x then rdF (10 - (i + 1)) (i + 1) (acc + (x - 128) * 128 ^ i) (l.drop (k + (i + 1)))
      else if (0 < i ∧ x = 0) ∨ (i = 9 ∧ 1 < x) then (0, 4, i + 1) else (acc + x * 128 ^ i, 0, i + 1) := by
  have e : 10 - i = (10 - (i + 1)) + 1 := by omega
  rw [e, List.drop_eq_getElem_cons hl]
  have h2 : (l[k+i]?.getD 0) = l[k+i] := by rw [List.getElem?_eq_getElem hl]; rfl
  rw [h2] at hx
  subst hx
  rfl

theorem rdF_none (l : List UInt8) (k i acc : Nat) (hi : i < 10) (hl : ¬ k + i < l.length) : rdF (10 - i) i acc (l.drop (k + i)) = (0, 3, i) := by
  have e : 10 - i = (10 - (i + 1)) + 1 := by omega
  rw [e, List.drop_eq_nil_of_le (by omega)]
  rfl

theorem take_one {p : Nat} {v : Value} {l : List UInt8} {k : Nat} {w : World} (h : Rdr w p v l k 0) (hl : k < l.length) (x : Nat) (hx : x = (l[k]?.getD 0).toNat) :
    Calls Try.prog 104 #[.pointer (some ⟨p, 0, none⟩), .int .i64 1] w fun e w' => ∃ ad c, e = .returned (.tuple #[.slice (some ad) 1 c, .int .i64 0]) ∧
      w'.cell? ad = some (.int .u8 x) ∧ Moved w p v l w' (k + 1) 0 := by
  obtain ⟨A, c, hv, _⟩ := h.2.1.rd
  subst hv
  have hc := take_yes p A c l k 0 1 w h (by omega)
  refine Calls.mono hc ?_
  rintro e w' ⟨u, rfl, hrd, hm⟩
  have e1 : (l.drop k).take 1 = [l[k]] := by
    rw [List.drop_eq_getElem_cons hl]
    rfl
  rw [e1] at hrd
  obtain ⟨A', c', rfl, _, hnone, hcell⟩ := hrd
  cases A' with
  | none => exact absurd (hnone rfl).1 (by simp)
  | some ad =>
    refine ⟨ad, c', rfl, ?_, hm⟩
    have h3 := hcell ad rfl 0 (l[k]) rfl
    have e2 : ad.add 0 = ad := by simp [Addr.add]
    rw [e2] at h3
    rw [h3, hx, List.getElem?_eq_getElem hl]
    rfl

theorem num_end {p : Nat} {v : Value} {l : List UInt8} {k : Nat} {w w' : World} {val : Int} {f m : Nat} {r : Nat × Nat × Nat} (hr : r = rdNum (l.drop k)) (h1 : val = r.1) (h2 : f = r.2.1) (h3 : m = k + r.2.2)
    (hm : Moved w p v l w' m 0) : NumPost p v l k w (.returned (.tuple #[.int .u64 val, .int .i64 f])) w' := by
  subst h1 h2 h3 hr
  exact ⟨rfl, hm⟩

theorem Moved.trans {a b c : World} {p : Nat} {v : Value} {l : List UInt8} {k f k' f' : Nat} (h : Moved a p v l b k f) (g : Moved b p v l c k' f') : Moved a p v l c k' f' :=
  ⟨g.1, h.2.trans g.2 (fun _ _ t => t)⟩
theorem Moved.drewN {a b : World} {p : Nat} {v : Value} {l : List UInt8} {k f : Nat} (h : Moved a p v l b k f) (n : Nat) : Moved a p v l (b.drewN n) k f := ⟨h.1, h.2.drewN n⟩

theorem nrel_step {p : Nat} {v : Value} {l : List UInt8} {k : Nat} {w wr w1 : World} {i acc x : Nat} (h10 : i < 10) (hl : k + i < l.length) (hx : x = (l[k+i]?.getD 0).toNat) (h128 : 128 ≤ x) (hx2 : x < 256)
    (hacc : acc < 128 ^ i) (hrd : rdF (10 - i) i acc (l.drop (k + i)) = rdNum (l.drop k)) (hm : Moved w p v l wr (k + i) 0) (hm1 : Moved wr p v l w1 (k + i + 1) 0) :
    ∃ j a, NRel p v l k w (.int .u64 (bits BinOp.or IntKind.u64 (acc : Int) (IntKind.u64.wrap (((x : Int) - 128) * 2 ^ (7 * i))))) (.int .i64 ((i : Int) + 1)) w1 j a := by
  refine ⟨i + 1, acc + (x - 128) * 128 ^ i, by congr 1, by omega, fun h => ?_, ?_, hm.trans hm1⟩
  · have := or_mid acc x i h128 hx2 (by omega) hacc
    rw [this.1]
    exact ⟨rfl, this.2⟩
  · rw [← hrd, rdF_step l k i acc h10 hl x hx, if_pos h128]

set_option maxRecDepth 100000 in
set_option maxHeartbeats 400000 in
theorem number_any (p : Nat) (v : Value) (l : List UInt8) (k : Nat) (w : World) (h : Rdr w p v l k 0) :
    Calls Try.prog 105 #[tk p] w (NumPost p v l k w) := by
  unfold tk
  go_enter Try.func105, Try.ntmps105
  go_wp2_with fail
  go_step3
  go_wp2_with fail
  go_step3
  go_wp2_with fail
  go_loopw [4, 8] (fun x c wr => ∃ (i acc : Nat), NRel p v l k w x c wr i acc) (fun _ c _ => 10 - (intOf c).toNat)
  case atStart => exact ⟨0, 0, rfl, by omega, fun _ => ⟨rfl, by simp⟩, rfl, h, Turn.refl _ _⟩
  case round =>
    obtain ⟨i, acc, rfl, hi, hx, hrd, hm⟩ := hrel
    by_cases h10 : i < 10
    · obtain ⟨rfl, hacc⟩ := hx h10
      have HA := Lib.hid hacc; clear hacc
      have HD := Lib.hid hrd; clear hrd
      have HM := Lib.hid hm; clear hm
      clear hx
      by_cases hlen : k + i < l.length
      · have HL := Lib.hid hlen; clear hlen
        obtain ⟨x, hx⟩ : ∃ x : Nat, x = (l[k+i]?.getD 0).toNat := ⟨_, rfl⟩
        have hx256 : x < 256 := by rw [hx]; exact UInt8.toNat_lt _
        have HX := Lib.hid hx; clear hx
        have HS := Lib.hid (rdF_step l k i acc h10 HL.out x HX.out)
        have HT := Lib.hid (take_one HM.out.1 HL.out x HX.out)
        by_cases h128 : 128 ≤ x
        · go_wp2_with (go_at_call 104; refine HT.out.mono ?_; rintro e w1 ⟨ad, c, rfl, hcell, hm1⟩; have HM1 := Lib.hid hm1; clear hm1)
          go_roundw
          case rel => exact nrel_step h10 HL.out HX.out h128 hx256 HA.out HD.out HM.out HM1.out
          case measure => simp [intOf]; omega
        · have HE := Lib.hid (HD.out.symm.trans (HS.out.trans (if_neg h128)))
          by_cases hi0 : i = 0
          · subst hi0
            go_wp2_with (go_at_call 104; refine HT.out.mono ?_; rintro e w1 ⟨ad, c, rfl, hcell, hm1⟩; have HM1 := Lib.hid hm1; clear hm1)
            rw [Exit.noGoto_ret]
            go_ret2
            refine num_end (r := (acc + x * 128 ^ 0, 0, 0 + 1)) ?_ ?_ rfl rfl (HM.out.trans HM1.out)
            · rw [HE.out, if_neg (by omega)]
            · have h0 : acc < 128 ^ 0 := HA.out
              have e0 : acc = 0 := by simpa using h0
              subst e0
              rw [bits_or_u64_nat 0 x (by omega) (by omega)]
              simp
          · have hpos : 0 < i := by omega
            clear hi0
            by_cases hx0 : x < 1
            · go_wp2_with (go_at_call 104; refine HT.out.mono ?_; rintro e w1 ⟨ad, c, rfl, hcell, hm1⟩; have HM1 := Lib.hid hm1; clear hm1)
              rw [Exit.noGoto_ret]
              go_ret2
              exact num_end (r := (0, 4, i + 1)) (by rw [HE.out, if_pos (.inl ⟨hpos, by omega⟩)]) rfl rfl rfl (HM.out.trans HM1.out)
            · have hx1 : 1 ≤ x := by omega
              clear hx0
              by_cases h9 : i < 9
              · go_wp2_with (go_at_call 104; refine HT.out.mono ?_; rintro e w1 ⟨ad, c, rfl, hcell, hm1⟩; have HM1 := Lib.hid hm1; clear hm1)
                rw [Exit.noGoto_ret]
                go_ret2
                refine num_end (r := (acc + x * 128 ^ i, 0, i + 1)) ?_ ?_ rfl rfl (HM.out.trans HM1.out)
                · rw [HE.out, if_neg (by omega)]
                · have hp := pow_le i (by omega)
                  have hm : x * 128 ^ i ≤ 1 * 9223372036854775808 ∨ x * 128 ^ i < 128 * 128 ^ i := .inr (Nat.mul_lt_mul_of_pos_right (by omega) (Nat.pow_pos (by omega)))
                  have hp2 := pow_le (i + 1) (by omega)
                  rw [Nat.pow_succ] at hp2
                  exact or_val acc x i (by omega) HA.out (by omega)
              · have h9b : 9 ≤ i := by omega
                clear h9
                by_cases hx2 : x < 2
                · go_wp2_with (go_at_call 104; refine HT.out.mono ?_; rintro e w1 ⟨ad, c, rfl, hcell, hm1⟩; have HM1 := Lib.hid hm1; clear hm1)
                  rw [Exit.noGoto_ret]
                  go_ret2
                  refine num_end (r := (acc + x * 128 ^ i, 0, i + 1)) ?_ ?_ rfl rfl (HM.out.trans HM1.out)
                  · rw [HE.out, if_neg (by omega)]
                  · have hp := pow_le i (by omega)
                    have e1 : x = 1 := by omega
                    have e9 : i = 9 := by omega
                    have h3 := or_val acc x i (by omega) HA.out (by rw [e1]; omega)
                    have e4 : IntKind.u64.wrap ((x : Int) * 2 ^ (7 * i)) = (x : Int) * 9223372036854775808 := by
                      rw [pow_7, e9, e1, IntKind.wrap_u64]
                      decide +kernel
                    rw [e4] at h3
                    exact h3
                · go_wp2_with (go_at_call 104; refine HT.out.mono ?_; rintro e w1 ⟨ad, c, rfl, hcell, hm1⟩; have HM1 := Lib.hid hm1; clear hm1)
                  rw [Exit.noGoto_ret]
                  go_ret2
                  exact num_end (r := (0, 4, i + 1)) (by rw [HE.out, if_pos (.inr ⟨by omega, by omega⟩)]) rfl rfl rfl (HM.out.trans HM1.out)
      · have HL := Lib.hid hlen; clear hlen
        have HN := Lib.hid (take_no p v l (k + i) 0 1 wr HM.out.1 (by have := HL.out; omega))
        have HE := Lib.hid (HD.out.symm.trans (rdF_none l k i acc h10 HL.out))
        go_wp2_with (go_at_call 104; refine HN.out.mono ?_; rintro e w1 ⟨rfl, m, rfl⟩)
        rw [Exit.noGoto_ret]
        go_ret2
        exact num_end HE.out.symm rfl rfl rfl (HM.out.drewN m)
    · have e10 : i = 10 := by omega
      subst e10
      have HD := Lib.hid hrd; clear hrd
      have HM := Lib.hid hm; clear hm
      clear hx
      go_wp2
      rw [Exit.noGoto_ret]
      go_ret2
      exact num_end HD.out rfl rfl rfl HM.out

end Go.Proofs.Ytejilonhdgfkbaa

/-
  What a reader's calls read: all of a thing, or a fault.
-/
namespace Go.Proofs.Ytejilonhdgfkbaa
open Go.RowKit

/-- Behind a thing that was tried: with a fault nothing but that has changed. -/
def Tried (p : Nat) (v : Value) (l : List UInt8) (k : Nat) (w : World) (none x : Value) (k1 f : Nat) (e : Ending) (w' : World) : Prop :=
  (f = 0 → e = .returned x ∧ Moved w p v l w' k1 0) ∧ (f ≠ 0 → e = .returned none ∧ Moved w p v l w' k f)

theorem tried_ok {p : Nat} {v : Value} {l : List UInt8} {k : Nat} {w : World} {none x : Value} {k1 : Nat} {w' : World} (h : Moved w p v l w' k1 0) : Tried p v l k w none x k1 0 (.returned x) w' :=
  ⟨fun _ => ⟨rfl, h⟩, fun n => absurd rfl n⟩

theorem tried_bad {p : Nat} {v : Value} {l : List UInt8} {k : Nat} {w : World} {none x : Value} {k1 f : Nat} {w1 : World} (h0 : Rdr w p v l k 0) (h : Moved w p v l w1 k1 0) (hf : f ≠ 0) :
    Tried p v l k w none x k1 f (.returned none) ((w1.setCell ⟨p, 1, Option.none⟩ (.int .i64 k)).setCell ⟨p, 2, Option.none⟩ (.int .i64 f)) := by
  refine ⟨fun n => absurd n hf, fun _ => ⟨rfl, ?_⟩⟩
  obtain ⟨⟨hb, hy, _, h2⟩, ht⟩ := h
  have hne : v.ownBlock ≠ some p := hy.ne_box hb (by decide)
  have t : Turn (fun g => g = p) w1 ((w1.setCell ⟨p, 1, Option.none⟩ (.int .i64 k)).setCell ⟨p, 2, Option.none⟩ (.int .i64 f)) :=
    ((Turn.refl (fun g => g = p) w1).setCell (p := ⟨p, 1, Option.none⟩) (fun _ => rfl) _).setCell (p := ⟨p, 2, Option.none⟩) (fun _ => rfl) _
  refine ⟨⟨?_, hy.turn t (fun g hg e => hne (by subst e; exact hg)), h0.2.2.1, h2⟩, ht.trans t (fun _ _ s => s)⟩
  simpa using (hb.set 1 (.int .i64 (k : Int))).set 2 (.int .i64 (f : Int))

set_option maxRecDepth 100000 in
set_option maxHeartbeats 400000 in
theorem read_u64 (p : Nat) (v : Value) (l : List UInt8) (k : Nat) (w : World)  (h : Rdr w p v l k 0) (x : Int) (k1 f : Nat)
    (ht : Calls Try.prog 105 #[tk p] w fun e w1 => e = .returned (.tuple #[(.int .u64 x), .int .i64 f]) ∧ Moved w p v l w1 k1 0) :
    Calls Try.prog 106 #[.pointer (some ⟨p, 0, none⟩), (.func (.func 105) #[] #[])] w (Tried p v l k w (.int .u64 0) (.int .u64 x) k1 f) := by
  have hc : w.cell? ⟨p, 1, none⟩ = some (.int .i64 k) := h.1.cell 1
  have HR := Lib.hid h; clear h
  have HT := Lib.hid ht; clear ht
  unfold tk at HT
  by_cases hf : f = 0
  · subst hf
    go_enter Try.func106, Try.ntmps106
    go_wp2_with (first
      | (go_at_call 67; refine (fault_any p _ l k 0 w HR.out).mono ?_; rintro e w1 ⟨rfl, rfl⟩)
      | (go_at_call 105; refine HT.out.mono ?_; rintro e w1 ⟨rfl, hm⟩; have HM := Lib.hid hm; clear hm))
    go_ret
    exact tried_ok HM.out
  · have hf2 : (((f : Int) == 0) = false) := by rw [beq_eq_false_iff_ne]; omega
    have hf3 : (((f : Int) != 0) = true) := by rw [bne_iff_ne]; omega
    have HF := Lib.hid hf; clear hf
    go_enter Try.func106, Try.ntmps106
    go_wp2_with (first
      | (go_at_call 67; refine (fault_any p _ l k 0 w HR.out).mono ?_; rintro e w1 ⟨rfl, rfl⟩)
      | (go_at_call 105; refine HT.out.mono ?_; rintro e w1 ⟨rfl, hm⟩; have c1 : w1.cell? ⟨p, 1, none⟩ = some (.int .i64 k1) := hm.1.1.cell 1; have c2 : w1.cell? ⟨p, 2, none⟩ = some (.int .i64 0) := hm.1.1.cell 2; have f1 : w1.frozen? ⟨p, 1, none⟩ = false := hm.1.1.free 1; have f2 : w1.frozen? ⟨p, 2, none⟩ = false := hm.1.1.free 2; have HM := Lib.hid hm; clear hm))
    go_ret
    exact tried_bad HR.out HM.out HF.out

set_option maxRecDepth 100000 in
set_option maxHeartbeats 400000 in
theorem read_text (p : Nat) (v : Value) (l : List UInt8) (k : Nat) (w : World) (b : Addr) (h : Rdr w p v l k 0) (x : ByteArray) (k1 f : Nat)
    (ht : Calls Try.prog 108 #[tk p, .pointer (some b)] w fun e w1 => e = .returned (.tuple #[(.string x), .int .i64 f]) ∧ Moved w p v l w1 k1 0) :
    Calls Try.prog 107 #[.pointer (some ⟨p, 0, none⟩), (.func (.func 108) #[] #[.pointer (some b)])] w (Tried p v l k w (.string ⟨#[]⟩) (.string x) k1 f) := by
  have hc : w.cell? ⟨p, 1, none⟩ = some (.int .i64 k) := h.1.cell 1
  have HR := Lib.hid h; clear h
  have HT := Lib.hid ht; clear ht
  unfold tk at HT
  by_cases hf : f = 0
  · subst hf
    go_enter Try.func107, Try.ntmps107
    go_wp2_with (first
      | (go_at_call 67; refine (fault_any p _ l k 0 w HR.out).mono ?_; rintro e w1 ⟨rfl, rfl⟩)
      | (go_at_call 108; refine HT.out.mono ?_; rintro e w1 ⟨rfl, hm⟩; have HM := Lib.hid hm; clear hm))
    go_ret
    exact tried_ok HM.out
  · have hf2 : (((f : Int) == 0) = false) := by rw [beq_eq_false_iff_ne]; omega
    have hf3 : (((f : Int) != 0) = true) := by rw [bne_iff_ne]; omega
    have HF := Lib.hid hf; clear hf
    go_enter Try.func107, Try.ntmps107
    go_wp2_with (first
      | (go_at_call 67; refine (fault_any p _ l k 0 w HR.out).mono ?_; rintro e w1 ⟨rfl, rfl⟩)
      | (go_at_call 108; refine HT.out.mono ?_; rintro e w1 ⟨rfl, hm⟩; have c1 : w1.cell? ⟨p, 1, none⟩ = some (.int .i64 k1) := hm.1.1.cell 1; have c2 : w1.cell? ⟨p, 2, none⟩ = some (.int .i64 0) := hm.1.1.cell 2; have f1 : w1.frozen? ⟨p, 1, none⟩ = false := hm.1.1.free 1; have f2 : w1.frozen? ⟨p, 2, none⟩ = false := hm.1.1.free 2; have HM := Lib.hid hm; clear hm))
    go_ret
    exact tried_bad HR.out HM.out HF.out

set_option maxRecDepth 100000 in
set_option maxHeartbeats 400000 in
theorem read_count (p : Nat) (v : Value) (l : List UInt8) (k : Nat) (w : World) (b : Addr) (h : Rdr w p v l k 0) (x : Int) (k1 f : Nat)
    (ht : Calls Try.prog 91 #[tk p, .pointer (some b)] w fun e w1 => e = .returned (.tuple #[(.int .i64 x), .int .i64 f]) ∧ Moved w p v l w1 k1 0) :
    Calls Try.prog 90 #[.pointer (some ⟨p, 0, none⟩), (.func (.func 91) #[] #[.pointer (some b)])] w (Tried p v l k w (.int .i64 0) (.int .i64 x) k1 f) := by
  have hc : w.cell? ⟨p, 1, none⟩ = some (.int .i64 k) := h.1.cell 1
  have HR := Lib.hid h; clear h
  have HT := Lib.hid ht; clear ht
  unfold tk at HT
  by_cases hf : f = 0
  · subst hf
    go_enter Try.func90, Try.ntmps90
    go_wp2_with (first
      | (go_at_call 67; refine (fault_any p _ l k 0 w HR.out).mono ?_; rintro e w1 ⟨rfl, rfl⟩)
      | (go_at_call 91; refine HT.out.mono ?_; rintro e w1 ⟨rfl, hm⟩; have HM := Lib.hid hm; clear hm))
    go_ret
    exact tried_ok HM.out
  · have hf2 : (((f : Int) == 0) = false) := by rw [beq_eq_false_iff_ne]; omega
    have hf3 : (((f : Int) != 0) = true) := by rw [bne_iff_ne]; omega
    have HF := Lib.hid hf; clear hf
    go_enter Try.func90, Try.ntmps90
    go_wp2_with (first
      | (go_at_call 67; refine (fault_any p _ l k 0 w HR.out).mono ?_; rintro e w1 ⟨rfl, rfl⟩)
      | (go_at_call 91; refine HT.out.mono ?_; rintro e w1 ⟨rfl, hm⟩; have c1 : w1.cell? ⟨p, 1, none⟩ = some (.int .i64 k1) := hm.1.1.cell 1; have c2 : w1.cell? ⟨p, 2, none⟩ = some (.int .i64 0) := hm.1.1.cell 2; have f1 : w1.frozen? ⟨p, 1, none⟩ = false := hm.1.1.free 1; have f2 : w1.frozen? ⟨p, 2, none⟩ = false := hm.1.1.free 2; have HM := Lib.hid hm; clear hm))
    go_ret
    exact tried_bad HR.out HM.out HF.out

end Go.Proofs.Ytejilonhdgfkbaa

/-
  What is read of a reader: numbers, counts, texts, flags.
-/
namespace Go.Proofs.Ytejilonhdgfkbaa
open Go.RowKit

/-- Any number of bytes that are there: the string that they make. -/
theorem take_any (p : Nat) (v : Value) (l : List UInt8) (k n : Nat) (w : World) (h : Rdr w p v l k 0) (hn : n ≤ l.length - k) :
    Calls Try.prog 104 #[.pointer (some ⟨p, 0, none⟩), .int .i64 n] w fun e w' => ∃ u, e = .returned (.tuple #[u, .int .i64 0]) ∧
      (convert 44 9 u).run Try.prog w' = .ok (.string ⟨((l.drop k).take n).toArray⟩) w' ∧ Moved w p v l w' (k + n) 0 := by
  obtain ⟨A, c, hv, _⟩ := h.2.1.rd
  subst hv
  exact (take_yes p A c l k 0 n w h hn).mono fun e w' ⟨u, he, hr, hm⟩ => ⟨u, he, hr.string, hm⟩

def rdFlag : List UInt8 → Bool × Nat × Nat
  | [] => (false, 3, 0)
  | b :: _ => if 1 < b.toNat then (false, 4, 1) else (b.toNat == 1, 0, 1)

def rdCount (most : Nat) (l : List UInt8) : Nat × Nat × Nat :=
  if (rdNum l).2.1 ≠ 0 then (0, (rdNum l).2.1, (rdNum l).2.2) else if most < (rdNum l).1 then (0, 4, (rdNum l).2.2) else ((rdNum l).1, 0, (rdNum l).2.2)

def rdText (most : Nat) (l : List UInt8) : List UInt8 × Nat × Nat :=
  if (rdCount most l).2.1 ≠ 0 then ([], (rdCount most l).2.1, (rdCount most l).2.2)
  else if (l.drop (rdCount most l).2.2).length < (rdCount most l).1 then ([], 3, (rdCount most l).2.2)
  else ((l.drop (rdCount most l).2.2).take (rdCount most l).1, 0, (rdCount most l).2.2 + (rdCount most l).1)

def FlagPost (p : Nat) (v : Value) (l : List UInt8) (k : Nat) (w : World) (e : Ending) (w' : World) : Prop :=
  e = .returned (.tuple #[.bool (rdFlag (l.drop k)).1, .int .i64 (rdFlag (l.drop k)).2.1]) ∧ Moved w p v l w' (k + (rdFlag (l.drop k)).2.2) 0

theorem flag_end {p : Nat} {v : Value} {l : List UInt8} {k : Nat} {w w' : World} {val : Bool} {f m : Nat} {r : Bool × Nat × Nat} (hr : r = rdFlag (l.drop k)) (h1 : val = r.1) (h2 : f = r.2.1) (h3 : m = k + r.2.2)
    (hm : Moved w p v l w' m 0) : FlagPost p v l k w (.returned (.tuple #[.bool val, .int .i64 f])) w' := by
  subst h1 h2 h3 hr
  exact ⟨rfl, hm⟩

theorem rdFlag_at (l : List UInt8) (k : Nat) (hl : k < l.length) (x : Nat) (hx : x = (l[k]?.getD 0).toNat) : rdFlag (l.drop k) = if 1 < x then (false, 4, 1) else (x == 1, 0, 1) := by
  rw [List.drop_eq_getElem_cons hl]
  have h2 : (l[k]?.getD 0) = l[k] := by rw [List.getElem?_eq_getElem hl]; rfl
  rw [h2] at hx
  subst hx
  rfl

def CountPost (p : Nat) (v : Value) (l : List UInt8) (k : Nat) (w : World) (most : Nat) (e : Ending) (w' : World) : Prop :=
  e = .returned (.tuple #[.int .i64 (rdCount most (l.drop k)).1, .int .i64 (rdCount most (l.drop k)).2.1]) ∧ Moved w p v l w' (k + (rdCount most (l.drop k)).2.2) 0

theorem count_end {p : Nat} {v : Value} {l : List UInt8} {k : Nat} {w w' : World} {most : Nat} {val : Int} {f m : Nat} {r : Nat × Nat × Nat} (hr : r = rdCount most (l.drop k)) (h1 : val = r.1) (h2 : f = r.2.1) (h3 : m = k + r.2.2)
    (hm : Moved w p v l w' m 0) : CountPost p v l k w most (.returned (.tuple #[.int .i64 val, .int .i64 f])) w' := by
  subst h1 h2 h3 hr
  exact ⟨rfl, hm⟩

set_option maxRecDepth 100000 in
set_option maxHeartbeats 400000 in
theorem count_any (p : Nat) (v : Value) (l : List UInt8) (k : Nat) (w : World) (most : Nat) (hmost : most ≤ 1000000000) (h : Rdr w p v l k 0) :
    Calls Try.prog 92 #[tk p, .int .i64 most] w (CountPost p v l k w most) := by
  have hn := number_any p v l k w h
  clear h
  obtain ⟨⟨n, f, m⟩, hr⟩ : ∃ r, r = rdNum (l.drop k) := ⟨_, rfl⟩
  unfold NumPost at hn
  rw [← hr] at hn
  have HN := Lib.hid hn; clear hn
  have hE : rdCount most (l.drop k) = if f ≠ 0 then (0, f, m) else if most < n then (0, 4, m) else (n, 0, m) := by
    unfold rdCount
    rw [← hr]
  have HE := Lib.hid hE; clear hE hr
  unfold tk at HN ⊢
  by_cases hf : f = 0
  · subst hf
    by_cases hlt : most < n
    · go_enter Try.func92, Try.ntmps92
      go_wp2_with (go_at_call 105; refine HN.out.mono ?_; rintro e w1 ⟨rfl, hm1⟩; have HM1 := Lib.hid hm1; clear hm1)
      go_ret2
      exact count_end (r := (0, 4, m)) (by rw [HE.out, if_neg (by omega), if_pos hlt]) rfl rfl rfl HM1.out
    · go_enter Try.func92, Try.ntmps92
      go_wp2_with (go_at_call 105; refine HN.out.mono ?_; rintro e w1 ⟨rfl, hm1⟩; have HM1 := Lib.hid hm1; clear hm1)
      go_ret2
      exact count_end (r := (n, 0, m)) (by rw [HE.out, if_neg (by omega), if_neg hlt]) rfl rfl rfl HM1.out
  · have hf2 : (((f : Int) == 0) = false) := by rw [beq_eq_false_iff_ne]; omega
    have hf3 : (((f : Int) != 0) = true) := by rw [bne_iff_ne]; omega
    have HF := Lib.hid hf; clear hf
    go_enter Try.func92, Try.ntmps92
    go_wp2_with (go_at_call 105; refine HN.out.mono ?_; rintro e w1 ⟨rfl, hm1⟩; have HM1 := Lib.hid hm1; clear hm1)
    go_ret2
    exact count_end (r := (0, f, m)) (by rw [HE.out, if_pos HF.out]) rfl rfl rfl HM1.out

end Go.Proofs.Ytejilonhdgfkbaa
