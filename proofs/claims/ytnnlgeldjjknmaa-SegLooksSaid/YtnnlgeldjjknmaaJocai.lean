/-
  Texts laid one behind the other: Me Zf Sk Zo So.
-/
import Derived.Test.YtnnlgeldjjknmaaJocac
import Derived.Test.YtnnlgeldjjknmaaJocah
import Derived.Test.YtnnlgeldjjknmaaJocab
import Derived.Laws.IdiomArrays
import Derived.Lib.SmallJoins

/-
  The weight of values, by the program and by the document.
-/
namespace Go.Proofs.Ytnnlgeldjjknmaa
open Go.RowKit

/-- What Weight answers, as a value. -/
def weighV (l : List Int) : Value := .tuple #[.int .i64 (weighO l).1, .bool (weighO l).2]
theorem weigh_no {l : List Int} {k n : Nat} {x : Int} (hn : weighN (l.take k) = n) (hx : l[k]? = some x) (h : ¬ n + x.natAbs ≤ 4611686018427387904) : Ending.returned (.tuple #[.int .i64 0, .bool false]) = .returned (weighV l) := by
  unfold weighV
  rw [weighO_no (k := k + 1) (by rw [weighN_take hx, hn]; exact h)]
  rfl
theorem weigh_yes {l : List Int} {k n : Nat} (hn : weighN (l.take k) = n) (hk : k = l.length) (h : n ≤ 4611686018427387904) {z : Int} (hz : z = n) : Ending.returned (.tuple #[.int .i64 z, .bool true]) = .returned (weighV l) := by
  rw [hk, List.take_length] at hn
  unfold weighV
  rw [weighO_yes (by rw [hn]; exact h), hn, hz]

end Go.Proofs.Ytnnlgeldjjknmaa

/-
  Stage 9: facts held against each other; which facts are light; the document's Weight.
-/
namespace Go.Proofs.Ytnnlgeldjjknmaa
open Go.RowKit

set_option maxRecDepth 100000

/-- Facts that are few, and short. -/
def short9 (f : F9) : Bool := decide (f.k.a.length ≤ 40) && decide (f.k.b.length ≤ 40) && decide (f.k.c.length ≤ 40) && decide (f.k.d.length ≤ 40)
def light9 (l : List F9) : Bool := decide (l.length ≤ 100) && l.all short9
theorem short_all9 {f : F9} (h : ∀ k, k < 4 → (f.k.dim k).length ≤ 40) : short9 f = true := by
  have e0 := h 0 (by omega)
  have e1 := h 1 (by omega)
  have e2 := h 2 (by omega)
  have e3 := h 3 (by omega)
  simp only [K9.dim] at e0 e1 e2 e3
  simp [short9, e0, e1, e2, e3]
theorem short_not9 {f : F9} {k : Nat} (hk : k < 4) (h : ¬ (f.k.dim k).length ≤ 40) : short9 f = false := by
  match k, hk with
  | 0, _ => simp only [K9.dim] at h; simp [short9, h]
  | 1, _ => simp only [K9.dim] at h; simp [short9, h]
  | 2, _ => simp only [K9.dim] at h; simp [short9, h]
  | 3, _ => simp only [K9.dim] at h; simp [short9, h]
theorem light_not9 {l : List F9} {i : Nat} {f : F9} (h : l[i]? = some f) (hf : short9 f = false) : light9 l = false := by
  unfold light9
  rw [Bool.and_eq_false_iff]
  right
  rw [← Bool.not_eq_true, List.all_eq_true]
  intro hall
  rw [hall f (List.mem_of_getElem? h)] at hf
  cases hf
theorem light_all9 {l : List F9} (hl : l.length ≤ 100) (h : ∀ (i : Nat) (f : F9), i < l.length → l[i]? = some f → short9 f = true) : light9 l = true := by
  unfold light9
  rw [Bool.and_eq_true, decide_eq_true_iff, List.all_eq_true]
  refine ⟨hl, fun f hf => ?_⟩
  obtain ⟨i, hi, e⟩ := List.getElem_of_mem hf
  exact h i f hi (by rw [List.getElem?_eq_getElem hi, e])

set_option maxHeartbeats 4000000 in
theorem light_any9 (v : Value) (l : List F9) (w : World) (hv : RdE EF w v l) (hl : l.length ≤ maxLen) : Calls Try.prog 8 #[v] w fun e w' => e = .returned (.bool (light9 l)) ∧ w' = w := by
  have HV := Lib.hid hv
  obtain ⟨A, c, rfl⟩ := hv.shape
  unfold maxLen at hl
  clear hv
  by_cases h100 : l.length ≤ 100
  · have h100' : (l.length : Int) ≤ 100 := by omega
    go_enter Try.func8, Try.ntmps8
    go_wp2_with fail
    go_loopw [3] (fun x3 wr => wr = w ∧ ∃ i : Nat, x3 = .int .i64 (i : Int) ∧ i ≤ l.length ∧ ∀ k f, k < i → l[k]? = some f → short9 f = true) (fun x3 _ => l.length - (intOf x3).toNat)
    case atStart => exact ⟨rfl, 0, rfl, Nat.zero_le _, fun k f hk => absurd hk (Nat.not_lt_zero k)⟩
    case round =>
      obtain ⟨rfl, i, rfl, hi, he⟩ := hrel
      have HE := Lib.hid he
      clear he
      by_cases hlt : i < l.length
      · obtain ⟨f, hf⟩ : ∃ f, l[i]? = some f := ⟨_, List.getElem?_eq_getElem hlt⟩
        obtain ⟨ad, rfl, hc⟩ := fact_at HV.out hf
        have hil : (i : Int) < l.length := by omega
        have HC := Lib.hid hc
        have HF := Lib.hid hf
        clear hc hf
        go_wp2_with fail
        go_loopw [4] (fun x4 wk => wk = wr ∧ ∃ k : Nat, x4 = .int .i64 (k : Int) ∧ k ≤ 4 ∧ ∀ j, j < k → (f.k.dim j).length ≤ 40) (fun x4 _ => 4 - (intOf x4).toNat)
        case atStart => exact ⟨rfl, 0, rfl, Nat.zero_le _, fun k hk => absurd hk (Nat.not_lt_zero k)⟩
        case round =>
          obtain ⟨rfl, k, rfl, hk, hd⟩ := hrel
          have HD := Lib.hid hd
          clear hd
          by_cases hk4 : k < 4
          · have e1 := (HC.out _ (Turn.refl _ _)).2.1 k hk4
            have hkl : (k : Int) < 4 := by omega
            rw [← Nat.add_assoc] at e1
            unfold sv9 at e1
            generalize hT : f.k.dim k = T at *
            by_cases hlen : T.length ≤ 40
            · have hli : (T.length : Int) ≤ 40 := by omega
              go_wp2_with fail
              go_roundw
              case rel => exact ⟨trivial, k + 1, by go_num, hk4, fun j hj => by
                by_cases ej : j = k
                · rw [ej, hT]; exact hlen
                · exact HD.out j (by omega)⟩
              case measure => simp [intOf]; omega
            · have hli : ¬ ((T.length : Int) ≤ 40) := by omega
              have HK := Lib.hid (light_not9 HF.out (short_not9 hk4 (by rw [hT]; exact hlen)))
              go_wp2_with fail
              go_ret
              rw [HK.out]
              exact ⟨rfl, rfl⟩
          · obtain rfl : k = 4 := by omega
            have HK := Lib.hid (short_all9 HD.out)
            go_wp2_with fail
            go_roundw
            case rel => exact ⟨trivial, i + 1, by go_num, hlt, fun j g hj hg => by
              by_cases ej : j = i
              · subst ej
                rw [HF.out] at hg
                cases hg
                exact HK.out
              · exact HE.out j g (by omega) hg⟩
            case measure => simp [intOf]; omega
      · obtain rfl : i = l.length := by omega
        have HK := Lib.hid (light_all9 h100 HE.out)
        go_wp2
        go_ret
        rw [HK.out]
        exact ⟨rfl, rfl⟩
  · have h100' : ¬ ((l.length : Int) ≤ 100) := by omega
    have e : light9 l = false := by simp [light9, h100]
    rw [e]
    go_enter Try.func8, Try.ntmps8
    go_wp2
    go_ret
    exact ⟨rfl, rfl⟩

/-- What the document's Weight answers. -/
def values9 (l : List F9) : List Int := l.map (·.v)
end Go.Proofs.Ytnnlgeldjjknmaa

/-
  Stage 11: the statement's Back, light and made; the chapter's example.
-/
namespace Go.Proofs.Ytnnlgeldjjknmaa
open Go.RowKit

set_option maxRecDepth 100000

theorem light_len11 {l : List F9} (h : light9 l = true) : l.length ≤ 100 := by
  unfold light9 at h
  rw [Bool.and_eq_true, decide_eq_true_iff] at h
  exact h.1
theorem light_any11 (v : Value) (l : List R11) (w : World) (hv : RdE ER w v l) (hl : l.length ≤ maxLen) : Calls Try.prog 9 #[v] w fun e w' => e = .returned (.bool (decide (l.length ≤ 100))) ∧ w' = w := by
  obtain ⟨A, c, rfl⟩ := hv.shape
  clear hv
  unfold maxLen at hl
  by_cases h : l.length ≤ 100
  · have h1 : (l.length : Int) ≤ 100 := by omega
    have HD : Hid (decide (l.length ≤ 100) = true) := decide_eq_true h
    clear h
    go_enter Try.func9, Try.ntmps9
    go_wp2
    go_ret
    exact ⟨by rw [HD.out]; rfl, rfl⟩
  · have h1 : ¬ (l.length : Int) ≤ 100 := by omega
    have HD : Hid (decide (l.length ≤ 100) = false) := decide_eq_false h
    clear h
    go_enter Try.func9, Try.ntmps9
    go_wp2
    go_ret
    exact ⟨by rw [HD.out]; rfl, rfl⟩

set_option maxHeartbeats 4000000 in
theorem made_any11 (v : Value) (l : List R11) (w : World) (hv : RdE ER w v l) (hok : ∀ r ∈ l, okC r.c) (hl : l.length ≤ 1000) : Calls Try.prog 18 #[v] w fun e w' => Part11 w (if rightR l then l else []) e w' := by
  have HR := Lib.hid (rows_any11 v l w hv hok hl)
  obtain ⟨A, c, rfl⟩ := hv.shape
  clear hv hok
  cases h : rightR l with
  | true =>
    unfold RowsA11 at HR
    rw [h] at HR
    clear h
    go_enter Try.func18, Try.ntmps18
    go_wp2_with fail
    refine HR.out.mono ?_
    rintro e w1 ⟨s, rfl, hs, -, t1⟩
    obtain ⟨p, rfl⟩ := hs.ptr
    have HS := Lib.hid hs; have HT := Lib.hid t1
    clear hs t1 HR
    go_wp2
    go_ret
    exact ⟨_, rfl, HS.out, HT.out⟩
  | false =>
    unfold RowsA11 at HR
    rw [h] at HR
    clear h
    go_enter Try.func18, Try.ntmps18
    go_wp2_with fail
    refine HR.out.mono ?_
    rintro e w1 ⟨s, rfl, hs, -, t1⟩
    obtain ⟨p, rfl⟩ := hs.ptr
    have HT := Lib.hid t1
    clear hs t1 HR
    go_wp2
    go_ret
    exact ⟨_, rfl, SV11.nil _, HT.out⟩

theorem at_in11 {L : List R11} {i : Nat} {x : R11} (h : L[i]? = some x) : rowA (atR (i : Int) L) = .tuple #[rv11 x, .bool true] := by
  unfold atR
  rw [if_pos (Int.natCast_nonneg i), Int.toNat_natCast, h]
  rfl
set_option maxHeartbeats 4000000 in
theorem back_any11 (d : Value) (L : List R11) (w : World) (h : SV11 w d L) : Calls Try.prog 14 #[d] w fun e w' => Rows11 w L e w' := by
  have HD := Lib.hid h
  have hl := h.right.2.2
  obtain ⟨p, rfl⟩ := h.ptr
  clear h
  have HN0 : Hid (NewE ER 51 w w (.slice none 0 0) []) := ⟨OwE.nil _, (fun k e => by simp [Value.ownBlock] at e), Turn.refl _ w⟩
  go_enter Try.func14, Try.ntmps14
  go_wp2_with fail
  go_loopw [3, 4] (fun x3 x4 wr => ∃ i : Nat, x4 = .int .i64 (i : Int) ∧ i ≤ L.length ∧ NewE ER 51 w wr x3 (L.take i)) (fun _ x4 _ => L.length - (intOf x4).toNat)
  case atStart => exact ⟨0, rfl, Nat.zero_le _, by rw [List.take_zero]; exact HN0.out⟩
  case round =>
    obtain ⟨i, rfl, hi, hm⟩ := hrel
    have HM := Lib.hid hm
    obtain ⟨A2, c2, hv⟩ := hm.own.shape
    have hti : (L.take i).length = i := by rw [List.length_take]; omega
    rw [hti] at hv
    subst hv
    clear hm
    go_wp2_with fail
    refine (len_any11 _ L wr (HD.out.later HM.out.turn)).mono ?_
    rintro e w1 ⟨rfl, t1⟩
    have HM1 : Hid (NewE ER 51 w w1 (.slice A2 i c2) (L.take i)) := ⟨HM.out.own.later t1, HM.out.new, HM.out.turn.trans t1 (fun _ _ f => f)⟩
    clear t1
    by_cases hlt : i < L.length
    · obtain ⟨x, hx⟩ : ∃ x, L[i]? = some x := ⟨_, List.getElem?_eq_getElem hlt⟩
      have hil : (i : Int) < L.length := by omega
      have HAT := at_any11 (.pointer p) L (i : Int) w1 (HD.out.later HM1.out.turn)
      rw [at_in11 hx] at HAT
      have HA := Lib.hid HAT
      have HTK : Hid (L.take (i + 1) = L.take i ++ [x]) := (split_at11 hx).1
      clear hx HAT
      go_wp2_with fail
      refine HA.out.mono ?_
      rintro e w2 ⟨rfl, t2⟩
      have HM2 : Hid (NewE ER 51 w w2 (.slice A2 i c2) (L.take i)) := ⟨HM1.out.own.later t2, HM1.out.new, HM1.out.turn.trans t2 (fun _ _ f => f)⟩
      clear t2
      have HN1 := Lib.hid ((HM2.out.alloc (.cells (cells11 x) 51)).alloc (.cells (cells11 x) 51))
      have HSR := Lib.hid (one_row ER 51 (w2.alloc (.cells (cells11 x) 51)) x)
      go_wp2_with (at_builtin; refine wpList_rows11 _ rfl _ _ rfl _ _ rfl HN1.out.own _ rfl [x] (by have h := HSR.out; rw [World.size_alloc] at h; exact h) (by simp only [List.length_cons, List.length_nil, hti]; omega) ?_; intro A3 n3 c3 w3 ho ht hn; have HN3 := Lib.hid (HN1.out.step ho ht hn); clear ho ht hn)
      go_roundw
      case rel => exact ⟨i + 1, by go_num, hlt, by rw [HTK.out]; exact HN3.out⟩
      case measure => simp [intOf]; omega
    · obtain rfl : i = L.length := by omega
      have HM2 : Hid (NewE ER 51 w w1 (.slice A2 L.length c2) L) := by have h := HM1.out; rwa [List.take_length] at h
      go_wp2
      go_ret
      exact ⟨_, rfl, HM2.out.own.rd, HM2.out.turn⟩

theorem run_eql_cell11 (p q : Cl) (w : World) : (binOp .eql 47 (cv p) (cv q)).run Try.prog w = .ok (.bool (decide (p = q))) w := by
  unfold cv
  rw [run_eql_struct, show (10000 : Nat) = 9998 + 2 from rfl]
  have h := eq_cell11 9998 p q w
  unfold cv at h
  rw [h]
  rfl
theorem guard_cell11 (op : BinOp) (x y : Operand) (p q : Cl) (w : World) : (eqGuard op 47 x y (cv p) (cv q)).run Try.prog w = .ok () w := run_eqGuard_agg w op _ x y _ _ (by kernel_rfl)
/-- The example: two facts of the empty key. -/
def k011 : K9 := ⟨0, [], [], [], []⟩
theorem ex_of11 : ofR [⟨k011, 3⟩, ⟨k011, -1⟩] = some [⟨k011, ⟨2, 2, -1, 3⟩⟩] := by decide
set_option maxHeartbeats 4000000 in
theorem alive_any11 (w : World) : Calls Try.prog 10 #[] w fun e w' => e = .returned (.bool true) ∧ Turn (fun _ => False) w w' := by
  have hrow := (OwE.made (E := EF) (e := 60) w [⟨k011, 3⟩, ⟨k011, -1⟩] (by simp [maxLen])).rd
  have HOF := Lib.hid (of_any11 _ _ _ hrow (by intro f hf; simp only [List.mem_cons, List.not_mem_nil, or_false] at hf; rcases hf with rfl | rfl <;> decide) (by simp))
  rw [ex_of11] at HOF
  clear hrow
  go_enter Try.func10, Try.ntmps10
  go_wp2_with fail
  refine HOF.out.mono ?_
  rintro e w1 ⟨s, rfl, h1, t1⟩
  obtain ⟨p, rfl⟩ := h1.ptr
  have H1 := Lib.hid h1
  have HT1 : Hid (Turn (fun _ => False) w w1) := ((Turn.refl _ w).alloc _).trans t1 (fun _ _ f => f)
  have H2 := at_any11 _ _ 0 w1 h1
  rw [show rowA (atR 0 (Option.getD (some [⟨k011, ⟨2, 2, -1, 3⟩⟩]) [])) = .tuple #[rv11 ⟨k011, ⟨2, 2, -1, 3⟩⟩, .bool true] from rfl] at H2
  have HA := Lib.hid H2
  clear h1 t1 H2
  go_wp2_with fail
  unfold faultO
  refine HA.out.mono ?_
  rintro e w2 ⟨rfl, t2⟩
  have HL := Lib.hid (fun W (ht : Turn (fun _ => False) w2 W) => len_any11 _ _ W (H1.out.later (t2.trans ht (fun _ _ f => f))))
  have HT2 : Hid (Turn (fun _ => False) w w2) := HT1.out.trans t2 (fun _ _ f => f)
  clear t2 HA HOF
  simp only [Option.isSome_some, if_true]
  go_wp2_with fail
  refine (HL.out _ ((Turn.refl _ w2).alloc _)).mono ?_
  rintro e w3 ⟨rfl, t3⟩
  have hb := (Box.new w2 51 (cells11 ⟨k011, ⟨2, 2, -1, 3⟩⟩)).turn t3 (fun f => f)
  have c5 : w3.cell? ⟨w2.heap.size, 5, none⟩ = some (.int .i64 2) := hb.cell 5
  have c6 : w3.cell? ⟨w2.heap.size, 6, none⟩ = some (.int .i64 2) := hb.cell 6
  have c7 : w3.cell? ⟨w2.heap.size, 7, none⟩ = some (.int .i64 (-1)) := hb.cell 7
  have c8 : w3.cell? ⟨w2.heap.size, 8, none⟩ = some (.int .i64 3) := hb.cell 8
  have HT3 : Hid (Turn (fun _ => False) w w3) := (HT2.out.alloc _).trans t3 (fun _ _ f => f)
  have heq := run_eql_cell11 ⟨2, 2, -1, 3⟩ ⟨2, 2, -1, 3⟩
  have hgd := fun X Y => guard_cell11 .eql X Y ⟨2, 2, -1, 3⟩ ⟨2, 2, -1, 3⟩
  rw [decide_eq_true rfl] at heq
  clear hb t3 HL
  simp only [Option.getD_some, List.length_cons, List.length_nil]
  go_wp2
  go_ret
  exact ⟨rfl, HT3.out⟩

end Go.Proofs.Ytnnlgeldjjknmaa

/-
  Stage 9: keys and facts that came in.
-/
namespace Go.Proofs.Ytnnlgeldjjknmaa
open Go.RowKit Go.ChangeShapes Go.WideShapes Go.Deep

set_option maxRecDepth 100000

theorem open_text9 {H : Type} {enc : TypeId × Value → H} {W : World} {n : Nat} {c0 : Value} {y : DataW H × List MemPlace} (h : DataW.trod enc Try.prog W 0 (fun _ => true) true n 9 [c0] = some y) : ∃ a : List UInt8, c0 = sv9 a := by
  obtain ⟨S, k2, _, sw⟩ := DataW.trod_string Try.underlying9 h
  simp only [List.cons.injEq, and_true] at k2
  exact ⟨S.data.toList, k2⟩
theorem open_texts9 {H : Type} {enc : TypeId × Value → H} {W : World} {n : Nat} {c0 c1 c2 c3 : Value} {y : DataW H × List MemPlace} (h : DataW.trod enc Try.prog W 0 (fun _ => true) true n 42 [c0, c1, c2, c3] = some y) :
    ∃ a b c d : List UInt8, c0 = sv9 a ∧ c1 = sv9 b ∧ c2 = sv9 c ∧ c3 = sv9 d := by
  obtain ⟨y0, y1, y2, y3, n', _, h0, h1, h2, h3⟩ := trod_array4 Try.underlying42 (by kernel_rfl) h
  obtain ⟨a, ha⟩ := open_text9 h0
  obtain ⟨b, hb⟩ := open_text9 h1
  obtain ⟨c, hc⟩ := open_text9 h2
  obtain ⟨d, hd⟩ := open_text9 h3
  exact ⟨a, b, c, d, ha, hb, hc, hd⟩
theorem open_keyc {H : Type} {enc : TypeId × Value → H} {W : World} {n : Nat} {cs : List Value} {y : DataW H × List MemPlace} (hl : cs.length = 5) (h : DataW.trod enc Try.prog W 0 (fun _ => true) true n 44 cs = some y) :
    ∃ k : K9, cs = [.int .i64 k.h, sv9 k.a, sv9 k.b, sv9 k.c, sv9 k.d] := by
  obtain ⟨y0, y1, n', _, _, g0, g1⟩ := trod_struct2 Try.underlying44 h
  have e1 : Try.prog.cellsOf 2 = 1 := by kernel_rfl
  have e4 : Try.prog.cellsOf 42 = 4 := by kernel_rfl
  match cs, hl with
  | [c0, c1, c2, c3, c4], _ =>
    simp [e1, e4] at g0 g1
    obtain ⟨K, k0, _, kw⟩ := DataW.trod_int Try.underlying2 g0
    simp only [List.cons.injEq, and_true] at k0
    subst k0
    obtain ⟨a, b, c, d, rfl, rfl, rfl, rfl⟩ := open_texts9 g1
    exact ⟨⟨K, a, b, c, d⟩, rfl⟩
theorem open_key9 {H : Type} {enc : TypeId × Value → H} {W : World} {b0 : Nat} {v : Value} {d : DataW H} {p : List MemPlace} (hv : Value.okWide Try.prog W .any b0 44 v) (h : DataW.Trod enc Try.prog W 0 (fun _ => true) true 44 v d p) : ∃ k : K9, v = kv9 k := by
  simp only [Value.okWide, Try.underlying44] at hv
  obtain ⟨cs, rfl, hsz, _⟩ := hv
  obtain ⟨fuel, hf⟩ := h
  have e5 : Try.prog.cellsOf 44 = 5 := by kernel_rfl
  obtain ⟨k, hk⟩ := open_keyc (by show (Value.cells (.agg cs)).toList.length = 5; simp [Value.cells]; omega) hf
  refine ⟨k, ?_⟩
  have hk2 : cs.toList = [.int .i64 k.h, sv9 k.a, sv9 k.b, sv9 k.c, sv9 k.d] := hk
  have hk3 : cs = #[.int .i64 k.h, sv9 k.a, sv9 k.b, sv9 k.c, sv9 k.d] := by rw [← Array.toList_inj]; exact hk2
  rw [hk3]
theorem open_factc {H : Type} {enc : TypeId × Value → H} {W : World} (n : Nat) (cs : List Value) (y : DataW H × List MemPlace) (hl : cs.length = EF.sz) (h : DataW.trod enc Try.prog W 0 (fun _ => true) true n 60 cs = some y) :
    ∃ f : F9, cs = EF.enc f ∧ (Lit.int .i64 f.v).wf = true := by
  obtain ⟨y0, y1, n', _, _, g0, g1⟩ := trod_struct2 Try.underlying60 h
  have e1 : Try.prog.cellsOf 2 = 1 := by kernel_rfl
  have e5 : Try.prog.cellsOf 44 = 5 := by kernel_rfl
  match cs, hl with
  | [c0, c1, c2, c3, c4, c5], _ =>
    simp [e1, e5] at g0 g1
    obtain ⟨K, k0, _, kw⟩ := DataW.trod_int Try.underlying2 g1
    simp only [List.cons.injEq, and_true] at k0
    subst k0
    obtain ⟨k, hk⟩ := open_keyc rfl g0
    simp only [List.cons.injEq, and_true] at hk
    obtain ⟨rfl, rfl, rfl, rfl, rfl⟩ := hk
    exact ⟨⟨k, K⟩, rfl, kw⟩
theorem open_facts9 {H : Type} {enc : TypeId × Value → H} {W : World} {v : Value} {d : DataW H} {p : List MemPlace} {a : Option Addr} {len cap : Nat} (hv : v = .slice a len cap)
    (h : DataW.Trod enc Try.prog W 0 (fun _ => true) true 22 v d p) : ∃ l : List F9, RdE EF W v l ∧ l.length ≤ maxLen ∧ ∀ f ∈ l, (Lit.int .i64 f.v).wf = true :=
  open_elems EF _ Try.underlying22 (by kernel_rfl) hv h open_factc

end Go.Proofs.Ytnnlgeldjjknmaa

/-
  Stage 11: rows that came in.
-/
namespace Go.Proofs.Ytnnlgeldjjknmaa
open Go.RowKit Go.ChangeShapes Go.WideShapes Go.Deep

set_option maxRecDepth 100000

theorem fit_of11 {x : Int} (h : (Lit.int .i64 x).wf = true) : fit x = true := by
  rw [fit_iff]
  simpa [Lit.wf, IntKind.min, IntKind.max, IntKind.signed, IntKind.bits] using h
theorem one_num11 {H : Type} {enc : TypeId × Value → H} {W : World} {n : Nat} {v : Value} {y : DataW H × List MemPlace} (h : DataW.trod enc Try.prog W 0 (fun _ => true) true n 2 [v] = some y) : ∃ x, v = .int .i64 x ∧ fit x = true := by
  obtain ⟨K, k0, _, kw⟩ := DataW.trod_int Try.underlying2 h
  simp only [List.cons.injEq, and_true] at k0
  exact ⟨K, k0, fit_of11 kw⟩
theorem open_cellc11 {H : Type} {enc : TypeId × Value → H} {W : World} {n : Nat} {c0 c1 c2 c3 : Value} {y : DataW H × List MemPlace} (h : DataW.trod enc Try.prog W 0 (fun _ => true) true n 47 [c0, c1, c2, c3] = some y) :
    ∃ a b c d : Int, c0 = .int .i64 a ∧ c1 = .int .i64 b ∧ c2 = .int .i64 c ∧ c3 = .int .i64 d ∧ okC ⟨a, b, c, d⟩ := by
  obtain ⟨y0, y1, y2, y3, n', _, _, h0, h1, h2, h3⟩ := Go.Joins.trod_struct4 Try.underlying47 h
  have e1 : Try.prog.cellsOf 2 = 1 := by kernel_rfl
  simp [e1] at h0 h1 h2 h3
  obtain ⟨x0, rfl, f0⟩ := one_num11 h0
  obtain ⟨x1, rfl, f1⟩ := one_num11 h1
  obtain ⟨x2, rfl, f2⟩ := one_num11 h2
  obtain ⟨x3, rfl, f3⟩ := one_num11 h3
  exact ⟨x0, x1, x2, x3, rfl, rfl, rfl, rfl, f0, f1, f2, f3⟩
theorem open_rowc11 {H : Type} {enc : TypeId × Value → H} {W : World} (n : Nat) (cs : List Value) (y : DataW H × List MemPlace) (hl : cs.length = ER.sz) (h : DataW.trod enc Try.prog W 0 (fun _ => true) true n 51 cs = some y) :
    ∃ r : R11, cs = ER.enc r ∧ okC r.c := by
  obtain ⟨y0, y1, n', _, _, g0, g1⟩ := trod_struct2 Try.underlying51 h
  have e4 : Try.prog.cellsOf 47 = 4 := by kernel_rfl
  have e5 : Try.prog.cellsOf 44 = 5 := by kernel_rfl
  match cs, hl with
  | [c0, c1, c2, c3, c4, c5, c6, c7, c8], _ =>
    simp [e4, e5] at g0 g1
    obtain ⟨a, b, c, d, rfl, rfl, rfl, rfl, hok⟩ := open_cellc11 g1
    obtain ⟨k, hk⟩ := open_keyc rfl g0
    simp only [List.cons.injEq, and_true] at hk
    obtain ⟨rfl, rfl, rfl, rfl, rfl⟩ := hk
    exact ⟨⟨k, ⟨a, b, c, d⟩⟩, rfl, hok⟩
theorem open_rows11 {H : Type} {enc : TypeId × Value → H} {W : World} {v : Value} {d : DataW H} {p : List MemPlace} {a : Option Addr} {len cap : Nat} (hv : v = .slice a len cap)
    (h : DataW.Trod enc Try.prog W 0 (fun _ => true) true 23 v d p) : ∃ l : List R11, RdE ER W v l ∧ l.length ≤ maxLen ∧ ∀ r ∈ l, okC r.c :=
  open_elems ER _ Try.underlying23 (by kernel_rfl) hv h open_rowc11

end Go.Proofs.Ytnnlgeldjjknmaa
