/-
  Texts laid one behind the other: Sr Me Zf Sk So Q2j.
-/
import Derived.Test.YtklpmajaihmmfaaJocam
import Derived.Test.YtklpmajaihmmfaaJocan
import Derived.Test.YtklpmajaihmmfaaJocag
import Derived.Test.YtklpmajaihmmfaaJocab
import Derived.Test.YtklpmajaihmmfaaJocae
import Derived.Test.YtklpmajaihmmfaaJocaa
import Derived.Lib.SmallJoins
import Derived.Test.YtklpmajaihmmfaaJocal

/-
  Stage 11: the program's contracts, together.
-/

/-
  The weight of values, by the program and by the document.
-/
namespace Go.Proofs.Ytklpmajaihmmfaa
open Go.RowKit

/-- What Weight answers, as a value. -/
def weighV (l : List Int) : Value := .tuple #[.int .i64 (weighO l).1, .bool (weighO l).2]
theorem weigh_no {l : List Int} {k n : Nat} {x : Int} (hn : weighN (l.take k) = n) (hx : l[k]? = some x) (h : ¬ n + x.natAbs ≤ 4611686018427387904) : Ending.returned (.tuple #[.int .i64 0, .bool false]) = .returned (weighV l) := by
  unfold weighV
  rw [weighO_no (k := k + 1) (by rw [weighN_take hx, hn]; exact h)]
  rfl
theorem weigh_yes {l : List Int} {k n : Nat} (hn : weighN (l.take k) = n) (hk : k = l.length) (h : n ≤ 4611686018427387904) {z : Int} (hz : z = n) : Ending.returned (.tuple #[.int .i64 z, .bool true]) = .returned (weighV l) := by
  rw [hk, List.take_length] at hn
  unfold weighV
  rw [weighO_yes (by rw [hn]; exact h), hn, hz]

end Go.Proofs.Ytklpmajaihmmfaa

/-
  Stage 9: facts held against each other; which facts are light; the document's Weight.
-/
namespace Go.Proofs.Ytklpmajaihmmfaa
open Go.RowKit

set_option maxRecDepth 100000

/-- Facts that are few, and short. -/
def short9 (f : F9) : Bool := decide (f.k.a.length ≤ 40) && decide (f.k.b.length ≤ 40) && decide (f.k.c.length ≤ 40) && decide (f.k.d.length ≤ 40)
def light9 (l : List F9) : Bool := decide (l.length ≤ 100) && l.all short9
theorem short_all9 {f : F9} (h : ∀ k, k < 4 → (f.k.dim k).length ≤ 40) : short9 f = true := by
  have e0 := h 0 (by omega)
  have e1 := h 1 (by omega)
  have e2 := h 2 (by omega)
  have e3 := h 3 (by omega)
  simp only [K9.dim] at e0 e1 e2 e3
  simp [short9, e0, e1, e2, e3]
theorem short_not9 {f : F9} {k : Nat} (hk : k < 4) (h : ¬ (f.k.dim k).length ≤ 40) : short9 f = false := by
  match k, hk with
  | 0, _ => simp only [K9.dim] at h; simp [short9, h]
  | 1, _ => simp only [K9.dim] at h; simp [short9, h]
  | 2, _ => simp only [K9.dim] at h; simp [short9, h]
  | 3, _ => simp only [K9.dim] at h; simp [short9, h]
theorem light_not9 {l : List F9} {i : Nat} {f : F9} (h : l[i]? = some f) (hf : short9 f = false) : light9 l = false := by
  unfold light9
  rw [Bool.and_eq_false_iff]
  right
  rw [← Bool.not_eq_true, List.all_eq_true]
  intro hall
  rw [hall f (List.mem_of_getElem? h)] at hf
  cases hf
theorem light_all9 {l : List F9} (hl : l.length ≤ 100) (h : ∀ (i : Nat) (f : F9), i < l.length → l[i]? = some f → short9 f = true) : light9 l = true := by
  unfold light9
  rw [Bool.and_eq_true, decide_eq_true_iff, List.all_eq_true]
  refine ⟨hl, fun f hf => ?_⟩
  obtain ⟨i, hi, e⟩ := List.getElem_of_mem hf
  exact h i f hi (by rw [List.getElem?_eq_getElem hi, e])

set_option maxHeartbeats 4000000 in
theorem light_any9 (v : Value) (l : List F9) (w : World) (hv : RdE EF w v l) (hl : l.length ≤ maxLen) : Calls Try.prog 13 #[v] w fun e w' => e = .returned (.bool (light9 l)) ∧ w' = w := by
  have HV := Lib.hid hv
  obtain ⟨A, c, rfl⟩ := hv.shape
  unfold maxLen at hl
  clear hv
  by_cases h100 : l.length ≤ 100
  · have h100' : (l.length : Int) ≤ 100 := by omega
    go_enter Try.func13, Try.ntmps13
    go_wp2_with fail
    go_loopw [3] (fun x3 wr => wr = w ∧ ∃ i : Nat, x3 = .int .i64 (i : Int) ∧ i ≤ l.length ∧ ∀ k f, k < i → l[k]? = some f → short9 f = true) (fun x3 _ => l.length - (intOf x3).toNat)
    case atStart => exact ⟨rfl, 0, rfl, Nat.zero_le _, fun k f hk => absurd hk (Nat.not_lt_zero k)⟩
    case round =>
      obtain ⟨rfl, i, rfl, hi, he⟩ := hrel
      have HE := Lib.hid he
      clear he
      by_cases hlt : i < l.length
      · obtain ⟨f, hf⟩ : ∃ f, l[i]? = some f := ⟨_, List.getElem?_eq_getElem hlt⟩
        obtain ⟨ad, rfl, hc⟩ := fact_at HV.out hf
        have hil : (i : Int) < l.length := by omega
        have HC := Lib.hid hc
        have HF := Lib.hid hf
        clear hc hf
        go_wp2_with fail
        go_loopw [4] (fun x4 wk => wk = wr ∧ ∃ k : Nat, x4 = .int .i64 (k : Int) ∧ k ≤ 4 ∧ ∀ j, j < k → (f.k.dim j).length ≤ 40) (fun x4 _ => 4 - (intOf x4).toNat)
        case atStart => exact ⟨rfl, 0, rfl, Nat.zero_le _, fun k hk => absurd hk (Nat.not_lt_zero k)⟩
        case round =>
          obtain ⟨rfl, k, rfl, hk, hd⟩ := hrel
          have HD := Lib.hid hd
          clear hd
          by_cases hk4 : k < 4
          · have e1 := (HC.out _ (Turn.refl _ _)).2.1 k hk4
            have hkl : (k : Int) < 4 := by omega
            rw [← Nat.add_assoc] at e1
            unfold sv9 at e1
            generalize hT : f.k.dim k = T at *
            by_cases hlen : T.length ≤ 40
            · have hli : (T.length : Int) ≤ 40 := by omega
              go_wp2_with fail
              go_roundw
              case rel => exact ⟨trivial, k + 1, by go_num, hk4, fun j hj => by
                by_cases ej : j = k
                · rw [ej, hT]; exact hlen
                · exact HD.out j (by omega)⟩
              case measure => simp [intOf]; omega
            · have hli : ¬ ((T.length : Int) ≤ 40) := by omega
              have HK := Lib.hid (light_not9 HF.out (short_not9 hk4 (by rw [hT]; exact hlen)))
              go_wp2_with fail
              go_ret
              rw [HK.out]
              exact ⟨rfl, rfl⟩
          · obtain rfl : k = 4 := by omega
            have HK := Lib.hid (short_all9 HD.out)
            go_wp2_with fail
            go_roundw
            case rel => exact ⟨trivial, i + 1, by go_num, hlt, fun j g hj hg => by
              by_cases ej : j = i
              · subst ej
                rw [HF.out] at hg
                cases hg
                exact HK.out
              · exact HE.out j g (by omega) hg⟩
            case measure => simp [intOf]; omega
      · obtain rfl : i = l.length := by omega
        have HK := Lib.hid (light_all9 h100 HE.out)
        go_wp2
        go_ret
        rw [HK.out]
        exact ⟨rfl, rfl⟩
  · have h100' : ¬ ((l.length : Int) ≤ 100) := by omega
    have e : light9 l = false := by simp [light9, h100]
    rw [e]
    go_enter Try.func13, Try.ntmps13
    go_wp2
    go_ret
    exact ⟨rfl, rfl⟩

/-- What the document's Weight answers. -/
def values9 (l : List F9) : List Int := l.map (·.v)
end Go.Proofs.Ytklpmajaihmmfaa

/-
  Stage 11: the statement's Back, light and made; the chapter's example.
-/
namespace Go.Proofs.Ytklpmajaihmmfaa
open Go.RowKit

set_option maxRecDepth 100000

theorem light_len11 {l : List F9} (h : light9 l = true) : l.length ≤ 100 := by
  unfold light9 at h
  rw [Bool.and_eq_true, decide_eq_true_iff] at h
  exact h.1
theorem at_in11 {L : List R11} {i : Nat} {x : R11} (h : L[i]? = some x) : rowA (atR (i : Int) L) = .tuple #[rv11 x, .bool true] := by
  unfold atR
  rw [if_pos (Int.natCast_nonneg i), Int.toNat_natCast, h]
  rfl
theorem run_eql_cell11 (p q : Cl) (w : World) : (binOp .eql 53 (cv p) (cv q)).run Try.prog w = .ok (.bool (decide (p = q))) w := by
  unfold cv
  rw [run_eql_struct, show (10000 : Nat) = 9998 + 2 from rfl]
  have h := eq_cell11 9998 p q w
  unfold cv at h
  rw [h]
  rfl
theorem guard_cell11 (op : BinOp) (x y : Operand) (p q : Cl) (w : World) : (eqGuard op 53 x y (cv p) (cv q)).run Try.prog w = .ok () w := run_eqGuard_agg w op _ x y _ _ (by kernel_rfl)
/-- The example: two facts of the empty key. -/
def k011 : K9 := ⟨0, [], [], [], []⟩
theorem ex_of11 : ofR [⟨k011, 3⟩, ⟨k011, -1⟩] = some [⟨k011, ⟨2, 2, -1, 3⟩⟩] := by decide
end Go.Proofs.Ytklpmajaihmmfaa

/-
  Stage 11: rows that came in.
-/
namespace Go.Proofs.Ytklpmajaihmmfaa
open Go.RowKit Go.ChangeShapes Go.WideShapes Go.Deep

set_option maxRecDepth 100000

theorem fit_of11 {x : Int} (h : (Lit.int .i64 x).wf = true) : fit x = true := by
  rw [fit_iff]
  simpa [Lit.wf, IntKind.min, IntKind.max, IntKind.signed, IntKind.bits] using h
theorem one_num11 {H : Type} {enc : TypeId × Value → H} {W : World} {n : Nat} {v : Value} {y : DataW H × List MemPlace} (h : DataW.trod enc Try.prog W 0 (fun _ => true) true n 2 [v] = some y) : ∃ x, v = .int .i64 x ∧ fit x = true := by
  obtain ⟨K, k0, _, kw⟩ := DataW.trod_int Try.underlying2 h
  simp only [List.cons.injEq, and_true] at k0
  exact ⟨K, k0, fit_of11 kw⟩
theorem open_cellc11 {H : Type} {enc : TypeId × Value → H} {W : World} {n : Nat} {c0 c1 c2 c3 : Value} {y : DataW H × List MemPlace} (h : DataW.trod enc Try.prog W 0 (fun _ => true) true n 53 [c0, c1, c2, c3] = some y) :
    ∃ a b c d : Int, c0 = .int .i64 a ∧ c1 = .int .i64 b ∧ c2 = .int .i64 c ∧ c3 = .int .i64 d ∧ okC ⟨a, b, c, d⟩ := by
  obtain ⟨y0, y1, y2, y3, n', _, _, h0, h1, h2, h3⟩ := Go.Joins.trod_struct4 Try.underlying53 h
  have e1 : Try.prog.cellsOf 2 = 1 := by kernel_rfl
  simp [e1] at h0 h1 h2 h3
  obtain ⟨x0, rfl, f0⟩ := one_num11 h0
  obtain ⟨x1, rfl, f1⟩ := one_num11 h1
  obtain ⟨x2, rfl, f2⟩ := one_num11 h2
  obtain ⟨x3, rfl, f3⟩ := one_num11 h3
  exact ⟨x0, x1, x2, x3, rfl, rfl, rfl, rfl, f0, f1, f2, f3⟩
theorem open_rowc11 {H : Type} {enc : TypeId × Value → H} {W : World} (n : Nat) (cs : List Value) (y : DataW H × List MemPlace) (hl : cs.length = ER.sz) (h : DataW.trod enc Try.prog W 0 (fun _ => true) true n 55 cs = some y) :
    ∃ r : R11, cs = ER.enc r ∧ okC r.c := by
  obtain ⟨y0, y1, n', _, _, g0, g1⟩ := trod_struct2 Try.underlying55 h
  have e4 : Try.prog.cellsOf 53 = 4 := by kernel_rfl
  have e5 : Try.prog.cellsOf 44 = 5 := by kernel_rfl
  match cs, hl with
  | [c0, c1, c2, c3, c4, c5, c6, c7, c8], _ =>
    simp [e4, e5] at g0 g1
    obtain ⟨a, b, c, d, rfl, rfl, rfl, rfl, hok⟩ := open_cellc11 g1
    obtain ⟨k, hk⟩ := open_keyc rfl g0
    simp only [List.cons.injEq, and_true] at hk
    obtain ⟨rfl, rfl, rfl, rfl, rfl⟩ := hk
    exact ⟨⟨k, ⟨a, b, c, d⟩⟩, rfl, hok⟩
theorem open_rows11 {H : Type} {enc : TypeId × Value → H} {W : World} {v : Value} {d : DataW H} {p : List MemPlace} {a : Option Addr} {len cap : Nat} (hv : v = .slice a len cap)
    (h : DataW.Trod enc Try.prog W 0 (fun _ => true) true 26 v d p) : ∃ l : List R11, RdE ER W v l ∧ l.length ≤ maxLen ∧ ∀ r ∈ l, okC r.c :=
  open_elems ER _ Try.underlying26 (by kernel_rfl) hv h open_rowc11

end Go.Proofs.Ytklpmajaihmmfaa

/-
  Stage 14: what the laws need: which queries are right, the example, lengths.
-/
namespace Go.Proofs.Ytklpmajaihmmfaa
open Go.RowKit

set_option maxRecDepth 100000

theorem puts_len14 : ∀ {l acc m : List R11}, putsR acc l = some m → m.length ≤ acc.length + l.length
  | [], acc, m, h => by cases h; simp
  | x :: l, acc, m, h => by
    unfold putsR at h
    cases hp : putR x acc with
    | none => rw [hp] at h; cases h
    | some a =>
      rw [hp] at h
      have h1 := putR_len hp
      have h2 := puts_len14 (l := l) (acc := a) (m := m) h
      simp only [List.length_cons]
      omega
theorem fold_len14 (q : Q13) (l : List R11) : ((foldR q l).getD []).length ≤ l.length := by
  cases h : foldR q l with
  | none => exact Nat.zero_le _
  | some m =>
    have h1 := puts_len14 h
    have h2 := grpR_len q l
    rw [List.length_nil, Nat.zero_add] at h1
    exact Nat.le_trans h1 h2
theorem fold_none14 (q : Q13) : foldR q [] = some [] := rfl
theorem puts_ok14 : ∀ {l acc m : List R11}, (∀ r ∈ acc, okC r.c) → (∀ r ∈ l, okC r.c) → putsR acc l = some m → ∀ r ∈ m, okC r.c
  | [], acc, m, ha, _, h => by cases h; exact ha
  | x :: l, acc, m, ha, hl, h => by
    unfold putsR at h
    cases hp : putR x acc with
    | none => rw [hp] at h; cases h
    | some a =>
      rw [hp] at h
      exact puts_ok14 (putR_ok (hl x (List.mem_cons_self ..)) ha hp) (fun r hr => hl r (List.mem_cons_of_mem _ hr)) h
theorem fold_ok14 {q : Q13} {l : List F9} {m : List R11} (hf : ∀ f ∈ l, fit f.v = true) (h : foldF q l = some m) : ∀ r ∈ m, okC r.c :=
  puts_ok14 (fun r h => by cases h) (grpR_ok fun r hr => by obtain ⟨f, hfl, rfl⟩ := List.mem_map.1 hr; exact okC_of (hf f hfl)) h
theorem foldF_len14 {q : Q13} {l : List F9} {m : List R11} (h : foldF q l = some m) : m.length ≤ l.length := by
  have h1 := fold_len14 q (l.map rowF)
  rw [show foldR q (l.map rowF) = some m from h, List.length_map] at h1
  exact h1

set_option maxHeartbeats 2000000 in
theorem right_any14 (q : Q13) (w : World) : Calls Try.prog 6 #[qv13 q] w fun e w' => e = .returned (.bool (decide (chkQ q 4 = 0))) ∧ Turn (fun _ => False) w w' := by
  unfold qv13
  have HT0 : Hid (Turn (fun _ => False) w (w.alloc (.cells (cells13 q) 25))) := (Turn.refl _ w).alloc _
  obtain ⟨b0, b1, b2, b3, b4, b5, b6, b7, b8, b9, b10, b11, b12, b13⟩ := cq_box13 (Box.new w 25 (cells13 q))
  have HC : Hid (∀ W, Calls Try.prog 18 #[.agg (cells13 q), .int .i64 4] W fun e w' => e = .returned (.int .i64 (chkQ q 4)) ∧ Turn (fun _ => False) W w') := fun W => ref_check13 q 4 W
  generalize chkQ q 4 = n at *
  go_enter Try.func6, Try.ntmps6
  go_wp2_with fail
  refine (HC.out _).mono ?_
  rintro e w1 ⟨rfl, t1⟩
  have HT := Lib.hid (HT0.out.trans t1 (fun _ _ f => f))
  clear t1 b0 b1 b2 b3 b4 b5 b6 b7 b8 b9 b10 b11 b12 b13
  by_cases h : n = 0
  · subst h
    go_wp2
    go_ret
    exact ⟨rfl, HT.out⟩
  · have e : decide (n = 0) = false := decide_eq_false h
    have e2 : (n == 0) = false := by simp [h]
    go_wp2
    go_ret
    exact ⟨by simp [h], HT.out⟩

def q140 : Q13 := ⟨0, 9, V4.fill false, V4.fill false, V4.fill []⟩
theorem ex_of14 : foldF q140 [⟨⟨0, [97], [], [], []⟩, 3⟩, ⟨⟨0, [98], [], [], []⟩, 4⟩] = some [⟨⟨0, [], [], [], []⟩, ⟨2, 7, 3, 4⟩⟩] := by decide
set_option maxHeartbeats 4000000 in
theorem alive_any14 (w : World) : Calls Try.prog 8 #[] w fun e w' => e = .returned (.bool true) ∧ Turn (fun _ => False) w w' := by
  have hrow := (OwE.made (E := EF) (e := 46) w [⟨⟨0, [97], [], [], []⟩, 3⟩, ⟨⟨0, [98], [], [], []⟩, 4⟩] (by simp [maxLen])).rd
  have HOF := Lib.hid (facts_any14 q140 _ _ _ hrow (by intro f hf; simp only [List.mem_cons, List.not_mem_nil, or_false] at hf; rcases hf with rfl | rfl <;> decide) (by simp))
  rw [ex_of14] at HOF
  clear hrow
  go_enter Try.func8, Try.ntmps8
  go_wp2_with fail
  refine HOF.out.mono ?_
  rintro e w1 ⟨s, rfl, h1, t1⟩
  have HT1 : Hid (Turn (fun _ => False) w w1) := ((Turn.refl _ w).alloc _).trans t1 (fun _ _ f => f)
  obtain ⟨A, c, rfl⟩ := h1.shape
  simp only [Option.getD_some, List.length_cons, List.length_nil, Nat.zero_add, Option.isSome_some, if_true] at h1 ⊢
  obtain ⟨ad, rfl, hc⟩ := row_at11 h1 (j := 0) rfl
  have hrw := hc w1 (Turn.refl _ _)
  unfold RowAt at hrw
  rw [show ad.add (0 * 9) = ad from by rw [Nat.zero_mul]; rfl] at hrw
  obtain ⟨a0, a1, a2, a3, a4, a5, a6, a7, a8⟩ := hrw
  have heq := run_eql_cell11 ⟨2, 7, 3, 4⟩ ⟨2, 7, 3, 4⟩
  have hgd := fun X Y => guard_cell11 .eql X Y ⟨2, 7, 3, 4⟩ ⟨2, 7, 3, 4⟩
  unfold cv at heq hgd
  rw [decide_eq_true rfl] at heq
  clear hc h1 t1 HOF
  go_wp2
  go_ret
  exact ⟨rfl, HT1.out⟩

end Go.Proofs.Ytklpmajaihmmfaa
